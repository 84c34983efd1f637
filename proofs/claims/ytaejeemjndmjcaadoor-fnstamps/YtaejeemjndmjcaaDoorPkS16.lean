/-
  Texts laid together: He, Stx, Sta.
-/
import Derived.Test.YtaejeemjndmjcaaDoorPkS15
import Derived.Test.YtaejeemjndmjcaaDoorPkS11
import Derived.Test.YtaejeemjndmjcaaDoorPkS5
import Derived.Test.YtaejeemjndmjcaaDoorPkS3
/-
  The text of a head: the program's and the specification's answers.
-/
namespace Go.Proofs.YtaejeemjndmjcaaDoor
open Go.RowKit Go.BigFrame Go.Sort
set_option linter.unusedVariables false
set_option linter.unusedSimpArgs false

theorem two_str (w : World) (b c : UInt8) : (convert 22 9 (.slice (some ⟨w.heap.size, 0, none⟩) 2 2)).run Tryd.prog (w.alloc (.cells #[.int .u8 (b.toNat : Int), .int .u8 (c.toNat : Int)] 5)) = .ok (.string ⟨#[b, c]⟩) (w.alloc (.cells #[.int .u8 (b.toNat : Int), .int .u8 (c.toNat : Int)] 5)) := by
  refine run_convert_bytes_back (P := Tryd.prog) _ 22 9 5 ⟨w.heap.size, 0, none⟩ 2 [b, c] Tryd.underlying22 Tryd.underlying5 Tryd.underlying9 ?_
  intro j hj
  have h0 : j = 0 ∨ j = 1 := by simp at hj; omega
  rcases h0 with rfl | rfl <;> simp [Addr.add]
theorem byte_int (x : Int) (n : Nat) (hx : x = (n : Int)) (h : n ≤ 255) : x = ((UInt8.ofNat n).toNat : Int) := by
  rw [hx]
  simp
  omega
/-- what stands as a text: two bytes, and two texts behind them -/
def b2T (b c : UInt8) (r p : ByteArray) : ByteArray := ⟨#[b, c]⟩ ++ r ++ p
theorem b2T_size (b c : UInt8) (r p : ByteArray) : (b2T b c r p).size = 2 + r.size + p.size := by
  unfold b2T
  rw [ByteArray.size_append, ByteArray.size_append]
  rfl
theorem HV.txtH_b2 (x : Hd) : HV.txtH x = b2T (UInt8.ofNat x.h.toNat) (UInt8.ofNat x.e.toNat) x.r x.p := rfl

set_option maxRecDepth 100000 in
set_option maxHeartbeats 1000000 in
theorem HeadText_any (x : Hd) (w : World) : Calls Tryd.prog 31 #[.agg #[.int .i64 x.h, .int .i64 x.e, .string x.r, .string x.p]] w fun e w' => e = .returned (.tuple #[.string (HV.textH x), .bool (HV.okH x)]) ∧ Below w.heap.size w w' := by
  have HC : Hid (∀ W, Calls Tryd.prog 40 #[.agg #[.int .i64 x.h, .int .i64 x.e, .string x.r, .string x.p]] W fun e w' => e = .returned (.bool (HV.okH x)) ∧ Below W.heap.size W w') := fun W => HeadOk_any x W
  unfold HV.textH
  cases hk : HV.okH x
  · rw [hk] at HC
    obtain ⟨h, e, r, p⟩ := x
    clear hk
    have HB : Hid (Below w.heap.size w (w.alloc (.cells #[.int .i64 h, .int .i64 e, .string r, .string p] 25))) := (Below.refl _ _).alloc (Nat.le_refl _) _
    have HS : w.heap.size ≤ (w.alloc (.cells #[.int .i64 h, .int .i64 e, .string r, .string p] 25)).heap.size := HB.out.size
    rw [if_neg (by simp)]
    go_enter Tryd.func31, Tryd.ntmps31
    go_wp2_with fail
    refine (HC.out _).mono ?_
    rintro e1 w1 ⟨rfl, hb1⟩
    have HB1 := HB.out.trans (hb1.mono HS)
    clear hb1
    go_wp2
    go_ret2
    exact ⟨rfl, HB1⟩
  · rw [hk] at HC
    rw [if_pos rfl, HV.txtH_b2]
    obtain ⟨⟨h0, h1⟩, ⟨h2, h3⟩, h4, h5⟩ := HV.okH_iff.1 hk
    have h6 : x.p.size ≤ 16 := by rw [h5]; unfold HV.pw; split <;> omega
    clear hk h5
    obtain ⟨h, e, r, p⟩ := x
    simp only at *
    obtain ⟨b, hb⟩ : ∃ b, UInt8.ofNat h.toNat = b := ⟨_, rfl⟩
    obtain ⟨c, hc⟩ : ∃ c, UInt8.ofNat e.toNat = c := ⟨_, rfl⟩
    have kb : h = (b.toNat : Int) := by rw [← hb]; exact byte_int h _ (by omega) (by omega)
    have kc : e = (c.toNat : Int) := by rw [← hc]; exact byte_int e _ (by omega) (by omega)
    rw [hb, hc]
    clear hb hc
    subst kb
    subst kc
    have HB : Hid (Below w.heap.size w (w.alloc (.cells #[.int .i64 (b.toNat : Int), .int .i64 (c.toNat : Int), .string r, .string p] 25))) := (Below.refl _ _).alloc (Nat.le_refl _) _
    have HS : w.heap.size ≤ (w.alloc (.cells #[.int .i64 (b.toNat : Int), .int .i64 (c.toNat : Int), .string r, .string p] 25)).heap.size := HB.out.size
    have HZ : Hid ((w.alloc (.cells #[.int .i64 (b.toNat : Int), .int .i64 (c.toNat : Int), .string r, .string p] 25)).rangeAt w.heap.size 0 [.int .i64 (b.toNat : Int), .int .i64 (c.toNat : Int), .string r, .string p]) := range_new w [.int .i64 (b.toNat : Int), .int .i64 (c.toNat : Int), .string r, .string p] _
    have HL : w.heap.size < (w.alloc (.cells #[.int .i64 (b.toNat : Int), .int .i64 (c.toNat : Int), .string r, .string p] 25)).heap.size := by simp
    go_enter Tryd.func31, Tryd.ntmps31
    go_wp2_with fail
    refine (HC.out _).mono ?_
    rintro e1 w1 ⟨rfl, hb1⟩
    have HB1 := HB.out.trans (hb1.mono HS)
    have HR := range_kept HZ.out (hb1.block _ HL)
    have z0 : w1.cell? ⟨w.heap.size, 0, none⟩ = some (.int .i64 (b.toNat : Int)) := HR 0 _ rfl
    have z1 : w1.cell? ⟨w.heap.size, 1, none⟩ = some (.int .i64 (c.toNat : Int)) := HR 1 _ rfl
    have z2 : w1.cell? ⟨w.heap.size, 2, none⟩ = some (.string r) := HR 2 _ rfl
    have z3 : w1.cell? ⟨w.heap.size, 3, none⟩ = some (.string p) := HR 3 _ rfl
    have HLT : w.heap.size < w1.heap.size := lt_of_cell z0
    have z2' : (w1.alloc (.cells #[.int .u8 (b.toNat : Int), .int .u8 (c.toNat : Int)] 5)).cell? ⟨w.heap.size, 2, none⟩ = some (.string r) := (cell_kept (Below.heap_alloc _ _ _ HLT)).trans z2
    have z3' : (w1.alloc (.cells #[.int .u8 (b.toNat : Int), .int .u8 (c.toNat : Int)] 5)).cell? ⟨w.heap.size, 3, none⟩ = some (.string p) := (cell_kept (Below.heap_alloc _ _ _ HLT)).trans z3
    have t2 := two_str w1 b c
    have s2 : (⟨#[b, c]⟩ : ByteArray).size = 2 := rfl
    have HB2 : Hid (Below w.heap.size w (w1.alloc (.cells #[.int .u8 (b.toNat : Int), .int .u8 (c.toNat : Int)] 5))) := HB1.alloc HB1.size _
    have HT : Hid (b2T b c r p = ⟨#[b, c]⟩ ++ r ++ p) := rfl
    clear HR HZ hb1 HC HB
    generalize hS : (⟨#[b, c]⟩ : ByteArray) = S2 at *
    clear hS
    go_wp2
    go_ret2
    rw [HT.out]
    exact ⟨rfl, HB2.out⟩

set_option maxRecDepth 100000 in
set_option maxHeartbeats 1000000 in
theorem sHeadText_any (x : Hd) (w : World) : Calls Tryd.prog 37 #[.agg #[.int .i64 x.h, .int .i64 x.e, .string x.r, .string x.p]] w fun e w' => e = .returned (.tuple #[.string (HV.textH x), .bool (HV.okH x)]) ∧ Below w.heap.size w w' := by
  have HC : Hid (∀ W, Calls Tryd.prog 60 #[.agg #[.int .i64 x.h, .int .i64 x.e, .string x.r, .string x.p]] W fun e w' => e = .returned (.bool (HV.okH x)) ∧ Below W.heap.size W w') := fun W => sHeadOk_any x W
  unfold HV.textH
  cases hk : HV.okH x
  · rw [hk] at HC
    obtain ⟨h, e, r, p⟩ := x
    clear hk
    have HB : Hid (Below w.heap.size w (w.alloc (.cells #[.int .i64 h, .int .i64 e, .string r, .string p] 25))) := (Below.refl _ _).alloc (Nat.le_refl _) _
    have HS : w.heap.size ≤ (w.alloc (.cells #[.int .i64 h, .int .i64 e, .string r, .string p] 25)).heap.size := HB.out.size
    rw [if_neg (by simp)]
    go_enter Tryd.func37, Tryd.ntmps37
    go_wp2_with fail
    refine (HC.out _).mono ?_
    rintro e1 w1 ⟨rfl, hb1⟩
    have HB1 := HB.out.trans (hb1.mono HS)
    clear hb1
    go_wp2
    go_ret2
    exact ⟨rfl, HB1⟩
  · rw [hk] at HC
    rw [if_pos rfl, HV.txtH_b2]
    obtain ⟨⟨h0, h1⟩, ⟨h2, h3⟩, h4, h5⟩ := HV.okH_iff.1 hk
    have h6 : x.p.size ≤ 16 := by rw [h5]; unfold HV.pw; split <;> omega
    clear hk h5
    obtain ⟨h, e, r, p⟩ := x
    simp only at *
    obtain ⟨b, hb⟩ : ∃ b, UInt8.ofNat h.toNat = b := ⟨_, rfl⟩
    obtain ⟨c, hc⟩ : ∃ c, UInt8.ofNat e.toNat = c := ⟨_, rfl⟩
    have kb : h = (b.toNat : Int) := by rw [← hb]; exact byte_int h _ (by omega) (by omega)
    have kc : e = (c.toNat : Int) := by rw [← hc]; exact byte_int e _ (by omega) (by omega)
    rw [hb, hc]
    clear hb hc
    subst kb
    subst kc
    have HB : Hid (Below w.heap.size w (w.alloc (.cells #[.int .i64 (b.toNat : Int), .int .i64 (c.toNat : Int), .string r, .string p] 25))) := (Below.refl _ _).alloc (Nat.le_refl _) _
    have HS : w.heap.size ≤ (w.alloc (.cells #[.int .i64 (b.toNat : Int), .int .i64 (c.toNat : Int), .string r, .string p] 25)).heap.size := HB.out.size
    have HZ : Hid ((w.alloc (.cells #[.int .i64 (b.toNat : Int), .int .i64 (c.toNat : Int), .string r, .string p] 25)).rangeAt w.heap.size 0 [.int .i64 (b.toNat : Int), .int .i64 (c.toNat : Int), .string r, .string p]) := range_new w [.int .i64 (b.toNat : Int), .int .i64 (c.toNat : Int), .string r, .string p] _
    have HL : w.heap.size < (w.alloc (.cells #[.int .i64 (b.toNat : Int), .int .i64 (c.toNat : Int), .string r, .string p] 25)).heap.size := by simp
    go_enter Tryd.func37, Tryd.ntmps37
    go_wp2_with fail
    refine (HC.out _).mono ?_
    rintro e1 w1 ⟨rfl, hb1⟩
    have HB1 := HB.out.trans (hb1.mono HS)
    have HR := range_kept HZ.out (hb1.block _ HL)
    have z0 : w1.cell? ⟨w.heap.size, 0, none⟩ = some (.int .i64 (b.toNat : Int)) := HR 0 _ rfl
    have z1 : w1.cell? ⟨w.heap.size, 1, none⟩ = some (.int .i64 (c.toNat : Int)) := HR 1 _ rfl
    have z2 : w1.cell? ⟨w.heap.size, 2, none⟩ = some (.string r) := HR 2 _ rfl
    have z3 : w1.cell? ⟨w.heap.size, 3, none⟩ = some (.string p) := HR 3 _ rfl
    have HLT : w.heap.size < w1.heap.size := lt_of_cell z0
    have z2' : (w1.alloc (.cells #[.int .u8 (b.toNat : Int), .int .u8 (c.toNat : Int)] 5)).cell? ⟨w.heap.size, 2, none⟩ = some (.string r) := (cell_kept (Below.heap_alloc _ _ _ HLT)).trans z2
    have z3' : (w1.alloc (.cells #[.int .u8 (b.toNat : Int), .int .u8 (c.toNat : Int)] 5)).cell? ⟨w.heap.size, 3, none⟩ = some (.string p) := (cell_kept (Below.heap_alloc _ _ _ HLT)).trans z3
    have t2 := two_str w1 b c
    have s2 : (⟨#[b, c]⟩ : ByteArray).size = 2 := rfl
    have HB2 : Hid (Below w.heap.size w (w1.alloc (.cells #[.int .u8 (b.toNat : Int), .int .u8 (c.toNat : Int)] 5))) := HB1.alloc HB1.size _
    have HT : Hid (b2T b c r p = ⟨#[b, c]⟩ ++ r ++ p) := rfl
    clear HR HZ hb1 HC HB
    generalize hS : (⟨#[b, c]⟩ : ByteArray) = S2 at *
    clear hS
    go_wp2
    go_ret2
    rw [HT.out]
    exact ⟨rfl, HB2.out⟩

end Go.Proofs.YtaejeemjndmjcaaDoor
/-
  What SigText answers, the program's and the specification's.
-/
namespace Go.Proofs.YtaejeemjndmjcaaDoor
open Go.RowKit Go.BigFrame
set_option linter.unusedVariables false

/-- a number and keys, one behind the other -/
def kyL (a : Nat) (l : List ByteArray) : List UInt8 := UInt8.ofNat a :: l.flatMap (fun p => p.data.toList)
def kyB (a : Nat) (l : List ByteArray) : ByteArray := ⟨(kyL a l).toArray⟩
theorem kyL_step (a : Nat) (l : List ByteArray) (k : Nat) (h : k < l.length) : kyL a (l.take (k + 1)) = kyL a (l.take k) ++ l[k].data.toList := by
  unfold kyL
  rw [← List.take_append_getElem h, List.flatMap_append]
  simp
theorem kyB_step (a : Nat) (l : List ByteArray) (k : Nat) (h : k < l.length) : kyB a (l.take k) ++ l[k] = kyB a (l.take (k + 1)) := by
  apply ByteArray.ext
  apply Array.toList_inj.1
  unfold kyB
  rw [kyL_step a l k h]
  simp [ByteArray.data_append]
theorem kyL_len (a : Nat) (l : List ByteArray) (hw : kwB l = true) : (kyL a l).length = 1 + 16 * l.length := by
  unfold kyL
  induction l with
  | nil => simp
  | cons x r ih =>
    have h1 := kwB_at hw 0 (by simp)
    have h2 : kwB r = true := by
      unfold kwB at hw ⊢
      simp at hw
      simpa using hw.2
    have h3 := ih h2
    have h4 : x.data.toList.length = 16 := by rw [Array.length_toList]; exact h1
    simp only [List.length_cons, List.flatMap_cons, List.length_append] at h3 ⊢
    omega
theorem kwB_take {l : List ByteArray} (h : kwB l = true) (k : Nat) : kwB (l.take k) = true := by
  unfold kwB at *
  rw [List.all_eq_true] at *
  exact fun x hx => h x (List.mem_of_mem_take hx)
theorem kwB_append {l r : List ByteArray} (h : kwB l = true) (k : kwB r = true) : kwB (l ++ r) = true := by
  unfold kwB at *
  rw [List.all_append, h, k]
  rfl
theorem kyB_size (a : Nat) (l : List ByteArray) : (kyB a l).size = (kyL a l).length := by simp [kyB, ByteArray.size]

/-- what SigText is -/
def sigB (a : Int) (o s d : List ByteArray) : ByteArray := if formB a o s d then kyB a.toNat (o ++ s ++ d) else ⟨#[]⟩

/-- a row of texts appended, in a region that draws -/
theorem step_appRow {w : World} {ops : Array Oper} {o : Oper} {a : Act} {K : Act → World → Prop} {Q : Exit → Act → World → Prop} {E : Prop} (hg : o.guard = none) (s x : Operand)
    (hop : o.op = .call { callee := .builtin .append, args := #[s, x], argTypes := #[26, 26] })
    (B : Nat) (w0 : World) (v u : Value) (l r : List ByteArray) (hs : a.eval s = v) (hown : OS B w0 w v l) (hx : a.eval x = u) (g of : Nat) (hr : SS w u g of r) (h0 : 0 < r.length) (hlen : l.length + r.length ≤ 1000000)
    (hK : ∀ v' w', OS B w0 w' v' (l ++ r) → K (a.put o.dst v') w') : if Region.wanted o (yielded ops a.tmps) = true then Oper.wp Tryd.prog o a w K Q else E := by
  obtain ⟨i0, hi, hz0, hz1, hz2⟩ := info_parts Tryd.info9
  obtain ⟨ao, cap, rfl, _, hA, hc⟩ := hr
  have ea := hA h0
  subst ea
  obtain ⟨v', w', hrun, h1, h2, _⟩ := run_append_own (P := Tryd.prog) w B 26 o.type 9 i0 (.string ByteArray.empty) 1 16 Tryd.underlying26 hi hz0 hz1 hz2 rfl (by decide) v l.length (svs l) hown.1 ⟨g, of, none⟩ r.length cap (svs r) (by simp [svs]) (by
      intro j u hj
      have hj2 : j < r.length := by
        have := (List.getElem?_eq_some_iff.1 hj).1
        simpa [svs] using this
      have e : (⟨g, of, none⟩ : Addr).add j = ⟨g, of + j, none⟩ := by unfold Addr.add; split <;> simp_all
      rw [e, hc j hj2]
      simp [svs, List.getElem?_eq_getElem hj2] at hj
      rw [hj])
    (fun u hu => by simp [svs] at hu; obtain ⟨b, _, rfl⟩ := hu; rfl) (by unfold maxLen; omega) (by omega) hown.2.2
  have hOB : OS B w0 w' v' (l ++ r) := ⟨by rw [List.length_append, svs_append]; exact h1, hown.2.1.grown h2 hown.2.2 (fun k hk => (hown.1.lt k hk).1), Nat.le_trans hown.2.2 h2.size⟩
  have hw : Region.wanted o (yielded ops a.tmps) = true := by simp [Region.wanted, hg]
  rw [if_pos hw]
  unfold Oper.wp
  simp [execOp, hop, resolve, invoke, builtin, hs, hx, hrun, Result.andThen]
  exact hK v' w' hOB

def SxR (a : Nat) (L : List ByteArray) (w : World) (s i : Value) (wr : World) : Prop := ∃ k : Nat, k ≤ L.length ∧ i = .int .i64 k ∧ s = .string (kyB a (L.take k)) ∧ wr = w

theorem SigText_no (a : Int) (vo vs vd : Value) (g1 o1 g2 o2 g3 o3 : Nat) (o s d : List ByteArray) (w : World) (ho : SS w vo g1 o1 o) (hs : SS w vs g2 o2 s) (hd : SS w vd g3 o3 d) (hf : formB a o s d = false) :
    Calls Tryd.prog 32 #[.agg #[.int .i64 a, vo, vs, vd]] w fun e w' => e = .returned (.tuple #[.string ⟨#[]⟩, .bool false]) ∧ Below w.heap.size w w' := by
  have hB : Below w.heap.size w (w.alloc (.cells #[.int .i64 a, vo, vs, vd] 28)) := (Below.refl _ _).alloc (Nat.le_refl _) _
  have hc := sigFormOk_any a vo vs vd g1 o1 g2 o2 g3 o3 o s d _ (ho.below hB ho.lt) (hs.below hB hs.lt) (hd.below hB hd.lt)
  rw [hf] at hc
  have HC : Hid (Calls Tryd.prog 65 #[.agg #[.int .i64 a, vo, vs, vd]] (w.alloc (.cells #[.int .i64 a, vo, vs, vd] 28)) fun e w' => e = .returned (.bool false) ∧ Below (w.alloc (.cells #[.int .i64 a, vo, vs, vd] 28)).heap.size (w.alloc (.cells #[.int .i64 a, vo, vs, vd] 28)) w') := hc
  have HB : Hid (Below w.heap.size w (w.alloc (.cells #[.int .i64 a, vo, vs, vd] 28))) := hB
  obtain ⟨ao, co, rfl, _, x1⟩ := ho
  obtain ⟨as2, cs2, rfl, _, x2⟩ := hs
  obtain ⟨ad, cd, rfl, _, x3⟩ := hd
  clear x1 x2 x3 hc hB hf
  go_enter Tryd.func32, Tryd.ntmps32
  go_wp2_with fail
  refine HC.out.mono ?_
  rintro e w1 ⟨rfl, hb1⟩
  go_wp2
  go_ret2
  exact ⟨rfl, HB.out.trans (hb1.mono HB.out.size)⟩

/-- a string appended to what is owned, and that nothing else turned -/
theorem wp_appStrG {w : World} {ops : Array Oper} {rest : List Oper} {o : Oper} {a : Act} {Q : Exit → Act → World → Prop} (hgd : o.guard = none) (s x : Operand)
    (ho : o.op = .call { callee := .builtin .append, args := #[s, x], argTypes := #[22, 9] })
    (B : Nat) (w0 : World) (v : Value) (l : List UInt8) (hs : a.eval s = v) (hown : OB B w0 w v l) (t : ByteArray) (hx : a.eval x = .string t) (hlen : l.length + t.size ≤ 1000000000)
    (h : ∀ v' w', OB B w0 w' v' (l ++ t.data.toList) → w.grownBy w' v.ownBlock → wpList Tryd.prog ops Q rest (a.put o.dst v') w') : wpList Tryd.prog ops Q (o :: rest) a w := by
  obtain ⟨i0, hi, hz0, hz1, hz2⟩ := info_parts Tryd.info5
  refine Lib.wpList_append_own_string w hgd s x 22 9 ho B 5 i0 Tryd.underlying22 Tryd.underlying9 hi hz0 hz1 hz2 v l.length (bv l) hs hown.1 t hx (by unfold maxLen; omega) (by omega) hown.2.2 ?_
  intro v' w' h1 h2 _
  have e : t.data.toList.length = t.size := Array.length_toList
  refine h v' w' ⟨?_, hown.2.1.grown h2 hown.2.2 (fun k hk => (hown.1.lt k hk).1), Nat.le_trans hown.2.2 h2.size⟩ h2
  rw [List.length_append, bv_append, e]
  exact h1
/-- the block of the three lists -/
def LL (w : World) (g : Nat) (v1 v2 v3 : Value) : Prop := w.heap[g]? = some (.cells #[v1, v2, v3] 26 (0, 0))
theorem LL.kept {w w' : World} {g B : Nat} {w0 : World} {v v1 v2 v3 : Value} {l : List UInt8} (h : LL w g v1 v2 v3) (ho : OB B w0 w v l) (hg : w.grownBy w' v.ownBlock) : LL w' g v1 v2 v3 := by
  have hlt : g < w.heap.size := (Array.getElem?_eq_some_iff.1 h).1
  unfold LL at *
  rw [hg.block g hlt ?_, h]
  intro he
  rcases ho.1.2 with ⟨rfl, _⟩ | ⟨g', cap, cur, rfl, _, hg', _⟩
  · simp [Value.ownBlock] at he
  · simp [Value.ownBlock] at he
    subst he
    rw [h] at hg'
    simp at hg'

/-- what the inner loop of SigText holds -/
def StI (a : Nat) (P l : List ByteArray) (w : World) (g : Nat) (v1 v2 v3 v i : Value) (wr : World) : Prop :=
  ∃ k : Nat, k ≤ l.length ∧ i = .int .i64 k ∧ OB w.heap.size w wr v (kyL a (P ++ l.take k)) ∧ LL wr g v1 v2 v3
/-- what the outer one holds -/
def StO (a : Nat) (o s d : List ByteArray) (w : World) (g : Nat) (v1 v2 v3 v i : Value) (wr : World) : Prop :=
  ∃ j : Nat, j ≤ 3 ∧ i = .int .i64 j ∧ OB w.heap.size w wr v (kyL a (([o, s, d].take j).flatten)) ∧ LL wr g v1 v2 v3

theorem kyL_more (a : Nat) (P l : List ByteArray) (k : Nat) (h : k < l.length) : kyL a (P ++ l.take k) ++ l[k].data.toList = kyL a (P ++ l.take (k + 1)) := by
  unfold kyL
  have e : l.take (k + 1) = l.take k ++ [l[k]] := (List.take_append_getElem h).symm
  rw [e]
  simp only [List.flatMap_append, List.flatMap_cons, List.flatMap_nil, List.append_nil, List.cons_append, List.append_assoc]

theorem LL.cell {w : World} {g : Nat} {v1 v2 v3 : Value} (h : LL w g v1 v2 v3) (j : Nat) (v : Value) (hv : #[v1, v2, v3][j]? = some v) : w.cell? ⟨g, j, none⟩ = some v := by
  rw [cell_of_row w g j _ _ (0, 0) h]
  exact hv

set_option maxRecDepth 100000 in
set_option maxHeartbeats 2000000 in
theorem SigText_yes (a : Nat) (vo vs vd : Value) (g1 o1 g2 o2 g3 o3 : Nat) (o s d : List ByteArray) (w : World) (ho : SS w vo g1 o1 o) (hs : SS w vs g2 o2 s) (hd : SS w vd g3 o3 d) (hf : formB (a : Int) o s d = true) :
    Calls Tryd.prog 32 #[.agg #[.int .i64 a, vo, vs, vd]] w fun e w' => e = .returned (.tuple #[.string (kyB a (o ++ s ++ d)), .bool true]) ∧ Below w.heap.size w w' := by
  obtain ⟨hA, ⟨wo, lo⟩, ⟨ws, ls⟩, wd, ld⟩ := formB_parts hf
  have hB : Below w.heap.size w (w.alloc (.cells #[.int .i64 a, vo, vs, vd] 28)) := (Below.refl _ _).alloc (Nat.le_refl _) _
  have hc := sigFormOk_any (a : Int) vo vs vd g1 o1 g2 o2 g3 o3 o s d _ (ho.below hB ho.lt) (hs.below hB hs.lt) (hd.below hB hd.lt)
  rw [hf] at hc
  have HC : Hid (Calls Tryd.prog 65 #[.agg #[.int .i64 a, vo, vs, vd]] (w.alloc (.cells #[.int .i64 a, vo, vs, vd] 28)) fun e w' => e = .returned (.bool true) ∧ Below (w.alloc (.cells #[.int .i64 a, vo, vs, vd] 28)).heap.size (w.alloc (.cells #[.int .i64 a, vo, vs, vd] 28)) w') := hc
  have HB : Hid (Below w.heap.size w (w.alloc (.cells #[.int .i64 a, vo, vs, vd] 28)) ∧ SgM (w.alloc (.cells #[.int .i64 a, vo, vs, vd] 28)) w.heap.size a vo vs vd) := ⟨hB, SgM.new w _ _ _ _⟩
  have HSEL : Hid (∀ j, j < 3 → ∃ (v : Value) (l : List ByteArray) (g of : Nat) (x : Option Addr) (c : Nat), #[vo, vs, vd][j]? = some v ∧ v = .slice x l.length c ∧ (∀ W, Below w.heap.size w W → SS W v g of l) ∧ kwB l = true ∧ l.length ≤ 8 ∧ ([o, s, d].take j).flatten ++ l = ([o, s, d].take (j + 1)).flatten ∧ ([o, s, d].take (j + 1)).flatten.length ≤ 20) := by
    intro j hj
    have h0 : j = 0 ∨ j = 1 ∨ j = 2 := by omega
    rcases h0 with rfl | rfl | rfl
    · obtain ⟨x, c, hv, _⟩ := id ho
      exact ⟨vo, o, g1, o1, x, c, rfl, hv, fun W hW => ho.below hW ho.lt, wo, by omega, by simp, by simp [lo]⟩
    · obtain ⟨x, c, hv, _⟩ := id hs
      exact ⟨vs, s, g2, o2, x, c, rfl, hv, fun W hW => hs.below hW hs.lt, ws, by omega, by simp, by simp [lo, ls]⟩
    · obtain ⟨x, c, hv, _⟩ := id hd
      exact ⟨vd, d, g3, o3, x, c, rfl, hv, fun W hW => hd.below hW hd.lt, wd, by omega, by simp, by simp [lo, ls, ld]⟩
  have HWI : Hid (∀ j, kwB ([o, s, d].take j).flatten = true) := by
    intro j
    have h0 : j = 0 ∨ j = 1 ∨ j = 2 ∨ 3 ≤ j := by omega
    rcases h0 with rfl | rfl | rfl | h
    · rfl
    · simpa using wo
    · simpa using kwB_append wo ws
    · rw [List.take_of_length_le (by simpa using h)]
      simpa using kwB_append wo (kwB_append ws wd)
  have HEND : Hid (kyL a ([o, s, d].take 3).flatten = kyL a (o ++ s ++ d)) := by show kyL a _ = kyL a _; simp
  obtain ⟨ao, co, rfl, _, x1⟩ := ho
  obtain ⟨as2, cs2, rfl, _, x2⟩ := hs
  obtain ⟨ad, cd, rfl, _, x3⟩ := hd
  rw [lo, ls, ld] at HSEL HC HB ⊢
  clear x1 x2 x3 hc hB hf wo ws wd lo ls ld
  have ha : a ≤ 15 := by omega
  clear hA
  obtain ⟨T, hTe⟩ : ∃ T, kyB a (o ++ s ++ d) = T := ⟨_, rfl⟩
  have HTe : Hid (kyB a (o ++ s ++ d) = T) := hTe
  rw [hTe]
  clear hTe
  go_enter Tryd.func32, Tryd.ntmps32
  go_wp2_with fail
  refine HC.out.mono ?_
  rintro e w1 ⟨rfl, hb1⟩
  have b1 := HB.out.1.trans (hb1.mono HB.out.1.size)
  have hS1 := HB.out.2.later hb1
  have c0 := hS1.c0
  have c1 := hS1.c1
  have c2 := hS1.c2
  have c3 := hS1.c3
  have hlt := hS1.lt
  have HST : Hid (StO a o s d w (w1.heap.size + 1) (.slice ao 8 co) (.slice as2 8 cs2) (.slice ad 4 cd) (.slice (some ⟨w1.heap.size, 0, none⟩) 1 1) (.int .i64 0) ((w1.alloc (.cells #[.int .u8 (a : Int)] 5)).alloc (.cells #[.slice ao 8 co, .slice as2 8 cs2, .slice ad 4 cd] 26))) := by
    have h1 := OB.one w1 (a : Int) (UInt8.ofNat a) (by simp; omega)
    have h2 : OB w.heap.size w (w1.alloc (.cells #[.int .u8 (a : Int)] 5)) (.slice (some ⟨w1.heap.size, 0, none⟩) 1 1) [UInt8.ofNat a] := by
      refine ⟨⟨h1.1.1, ?_⟩, b1.trans (h1.2.1.mono b1.size), Nat.le_trans b1.size h1.2.2⟩
      rcases h1.1.2 with hn | ⟨g, cap, cur, hv, hbg, rest⟩
      · exact .inl hn
      · exact .inr ⟨g, cap, cur, hv, Nat.le_trans b1.size hbg, rest⟩
    refine ⟨0, by omega, rfl, h2.alloc _, ?_⟩
    have e : (w1.alloc (.cells #[.int .u8 (a : Int)] 5)).heap.size = w1.heap.size + 1 := by simp
    unfold LL
    rw [← e]
    exact Go.heap_alloc_new _ _
  clear HC hS1 b1 hb1
  go_wp2
  go_loopw [4, 24] (fun v i wr => StO a o s d w (w1.heap.size + 1) (.slice ao 8 co) (.slice as2 8 cs2) (.slice ad 4 cd) v i wr) (fun _ i _ => 3 - (intOf i).toNat)
  case atStart => exact HST.out
  case round =>
    obtain ⟨j, hj, rfl, hob, hll⟩ := hrel
    clear HST
    by_cases hlt3 : j < 3
    · obtain ⟨v, l, g, of, x, c, hsel, rfl, HSS, hwl, hl8, hnx, hn20⟩ := HSEL.out j hlt3
      have cj := hll.cell j _ hsel
      have hwP := HWI.out j
      have HNX : Hid (∀ v W, OB w.heap.size w W v (kyL a (([o, s, d].take j).flatten ++ l)) → LL W (w1.heap.size + 1) (.slice ao 8 co) (.slice as2 8 cs2) (.slice ad 4 cd) → StO a o s d w (w1.heap.size + 1) (.slice ao 8 co) (.slice as2 8 cs2) (.slice ad 4 cd) v (.int .i64 ((j : Int) + 1)) W) := by
        rw [hnx]
        exact fun v W hW hL => ⟨j + 1, by omega, by simp, hW, hL⟩
      have hPl : (([o, s, d].take j).flatten).length + l.length ≤ 20 := by rw [← List.length_append, hnx]; exact hn20
      generalize ([o, s, d].take j).flatten = P at *
      have i1 : (j : Int) < 3 := by omega
      have i2 : (0 : Int) ≤ (j : Int) := by omega
      obtain ⟨n, hn⟩ : ∃ n, l.length = n := ⟨_, rfl⟩
      have HN : Hid (l.length = n) := hn
      rw [hn] at cj hl8 hPl HSS
      have HSS : Hid (∀ W, Below w.heap.size w W → SS W (.slice x n c) g of l) := HSS
      have HS2 : Hid (StI a P l w (w1.heap.size + 1) (.slice ao 8 co) (.slice as2 8 cs2) (.slice ad 4 cd) u4 (.int .i64 0) wr) := ⟨0, by omega, rfl, by simpa using hob, hll⟩
      have HW1 : Hid (kwB l = true ∧ kwB P = true) := ⟨hwl, hwP⟩
      clear hob hll hsel hnx hn hwl hwP hn20
      go_wp2
      go_loopw [4, 30] (fun v i wr => StI a P l w (w1.heap.size + 1) (.slice ao 8 co) (.slice as2 8 cs2) (.slice ad 4 cd) v i wr) (fun _ i _ => n - (intOf i).toNat)
      case atStart => exact HS2.out
      case round =>
        obtain ⟨k, hk, rfl, hob, hll⟩ := hrel
        clear HS2 cj
        rw [HN.out] at hk
        by_cases hlt4 : k < n
        · have hsw := HSS.out _ hob.2.1
          obtain ⟨x', c', hv', _, hAx, hcx⟩ := hsw
          have ex := hAx (by rw [HN.out]; omega)
          rw [HN.out] at hv'
          simp at hv'
          obtain ⟨rfl, rfl⟩ := hv'
          subst ex
          have c0 := hcx k (by rw [HN.out]; exact hlt4)
          have hst := kyL_more a P l k (by rw [HN.out]; exact hlt4)
          have z2 := kwB_at HW1.out.1 k (by rw [HN.out]; exact hlt4)
          have z1 : (kyL a (P ++ l.take k)).length ≤ 1000 := by
            rw [kyL_len _ _ (kwB_append HW1.out.2 (kwB_take HW1.out.1 k)), List.length_append, List.length_take]
            omega
          have i3 : (k : Int) < (n : Int) := by omega
          have i4 : (0 : Int) ≤ (k : Int) := by omega
          have HNN : Hid (∀ v W, OB w.heap.size w W v (kyL a (P ++ l.take k) ++ (l[k]'(by rw [HN.out]; exact hlt4)).data.toList) → LL W (w1.heap.size + 1) (.slice ao 8 co) (.slice as2 8 cs2) (.slice ad 4 cd) → StI a P l w (w1.heap.size + 1) (.slice ao 8 co) (.slice as2 8 cs2) (.slice ad 4 cd) v (.int .i64 ((k : Int) + 1)) W) := by
            rw [hst]
            exact fun v W hW hL => ⟨k + 1, by rw [HN.out]; omega, by simp, hW, hL⟩
          generalize l[k]'(by rw [HN.out]; exact hlt4) = X at *
          generalize kyL a (P ++ l.take k) = Y at *
          clear hAx hcx hst
          go_wp2_with (at_builtin; refine wp_appStrG rfl _ _ rfl w.heap.size w _ Y rfl hob X rfl ?c1 ?_)
          case c1 => omega
          intro v' w2 hob2 hgr
          have hll2 := hll.kept hob hgr
          clear hgr hob hll c0
          go_wp2
          go_roundw
          case rel => exact HNN.out _ _ hob2 hll2
          case measure => simp [intOf]; omega
        · have hke : k = n := by omega
          have e : l.take k = l := List.take_of_length_le (by rw [HN.out]; omega)
          rw [e] at hob
          have HN3 := HNX.out _ _ hob hll
          subst hke
          clear hob hll e
          have HN3 : Hid _ := HN3
          go_wp2
          go_roundw
          case rel => exact HN3.out
          case measure => simp [intOf]; omega
    · have hje : j = 3 := by omega
      subst hje
      rw [HEND.out] at hob
      have hcv := run_str hob
      have e3 : (⟨(kyL a (o ++ s ++ d)).toArray⟩ : ByteArray) = T := by rw [← HTe.out]; rfl
      rw [e3] at hcv
      clear e3
      go_wp2
      go_ret2
      exact ⟨rfl, hob.2.1⟩

end Go.Proofs.YtaejeemjndmjcaaDoor
/-
  What SigText answers of every signature, the program's and the specification's.
-/
namespace Go.Proofs.YtaejeemjndmjcaaDoor
open Go.RowKit Go.BigFrame
set_option linter.unusedVariables false

theorem SigText_all (a : Int) (vo vs vd : Value) (g1 o1 g2 o2 g3 o3 : Nat) (o s d : List ByteArray) (w : World) (ho : SS w vo g1 o1 o) (hs : SS w vs g2 o2 s) (hd : SS w vd g3 o3 d) :
    Calls Tryd.prog 32 #[.agg #[.int .i64 a, vo, vs, vd]] w fun e w' => e = .returned (.tuple #[.string (sigB a o s d), .bool (formB a o s d)]) ∧ Below w.heap.size w w' := by
  unfold sigB
  cases hf : formB a o s d with
  | false => exact SigText_no a vo vs vd g1 o1 g2 o2 g3 o3 o s d w ho hs hd hf
  | true =>
    obtain ⟨hA, _⟩ := formB_parts hf
    obtain ⟨a, rfl⟩ := Int.eq_ofNat_of_zero_le hA.1
    exact SigText_yes a vo vs vd g1 o1 g2 o2 g3 o3 o s d w ho hs hd hf

theorem sigB_size (a : Int) (o s d : List ByteArray) : (sigB a o s d).size ≤ 321 := by
  unfold sigB
  split
  · rename_i hf
    obtain ⟨_, ⟨h1, l1⟩, ⟨h2, l2⟩, ⟨h3, l3⟩⟩ := formB_parts hf
    rw [kyB_size, kyL_len _ _ (kwB_append (kwB_append h1 h2) h3)]
    simp [l1, l2, l3]
  · exact Nat.zero_le _

end Go.Proofs.YtaejeemjndmjcaaDoor
