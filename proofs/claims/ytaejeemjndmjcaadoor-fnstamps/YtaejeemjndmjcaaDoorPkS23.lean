/-
  Texts laid together: Rsh, Xd, Xa.
-/
import Derived.Test.YtaejeemjndmjcaaDoorPkS17
import Derived.Test.YtaejeemjndmjcaaDoorPkS22
import Derived.Test.YtaejeemjndmjcaaDoorPkS20
import Derived.Test.YtaejeemjndmjcaaDoorPkS15
import Derived.Test.YtaejeemjndmjcaaDoorPkS0
/-
  What ReadSig answers at any text, the program's and the specification's.
-/
namespace Go.Proofs.YtaejeemjndmjcaaDoor
open Go.RowKit Go.BigFrame
set_option linter.unusedVariables false

theorem ReadSig_no (t : ByteArray) (w : World) (ht : t.size ≤ 1048576) (h : ¬ (t.size = 321 ∧ (b0 t).toNat ≤ 15)) :
    Calls Tryd.prog 36 #[.string t] w fun e w' => ∃ v, e = .returned (.tuple #[v, .bool false]) ∧ SigIn w' w.heap.size v 0 [] [] [] ∧ Below w.heap.size w w' := by
  have HF : Hid (SgM ((w.alloc (.cells zSig 28))) w.heap.size 0 (.slice none 0 0) (.slice none 0 0) (.slice none 0 0)) := SgM.new w 0 _ _ _
  by_cases h1 : t.size = 321
  · have hh := run_b0 t (by omega)
    have hd : decide ((0 : Int) ≤ ((b0 t).toNat : Int) ∧ ((b0 t).toNat : Int) ≤ 15) = false := by simp; omega
    have q : ((t.size : Int) != 321) = false := by simp; omega
    clear h
    generalize b0 t = b at *
    have hb : b.toNat < 256 := b.toNat_lt
    go_enter Tryd.func36, Tryd.ntmps36
    go_wp2_with fail
    refine (inPool_f _ _).mono ?_
    rintro e w0 ⟨rfl, rfl⟩
    rw [hd]
    go_wp2_with (refine wp_storeSig rfl _ _ rfl w.heap.size 0 _ _ _ _ _ _ _ HF.out rfl rfl rfl rfl rfl ?_; intro hfin)
    refine ret_sig2 2 3 w.heap.size _ _ _ _ _ rfl rfl rfl rfl hfin ?_
    exact ⟨_, rfl, SigIn.zero _ _, ((Below.refl _ _).alloc (Nat.le_refl _) _).grown (grown_setRow _ w.heap.size _) (by simp) (fun k hk => by simp at hk; omega)⟩
  · have q : ((t.size : Int) != 321) = true := by simp; omega
    clear h h1
    go_enter Tryd.func36, Tryd.ntmps36
    go_wp2_with (refine wp_storeSig rfl _ _ rfl w.heap.size 0 _ _ _ _ _ _ _ HF.out rfl rfl rfl rfl rfl ?_; intro hfin)
    refine ret_sig2 2 3 w.heap.size _ _ _ _ _ rfl rfl rfl rfl hfin ?_
    exact ⟨_, rfl, SigIn.zero _ _, ((Below.refl _ _).alloc (Nat.le_refl _) _).grown (grown_setRow _ w.heap.size _) (by simp) (fun k hk => by simp at hk; omega)⟩

theorem ReadSig_any (t : ByteArray) (w : World) (ht : t.size ≤ 1048576) :
    Calls Tryd.prog 36 #[.string t] w fun e w' => ∃ v, e = .returned (.tuple #[v, .bool (rsOk t)]) ∧ SigIn w' w.heap.size v (rsA t) (rsO t) (rsS t) (rsD t) ∧ Below w.heap.size w w' := by
  unfold rsA rsO rsS rsD
  by_cases h : t.size = 321 ∧ (b0 t).toNat ≤ 15
  · have e : rsOk t = true := decide_eq_true h
    rw [e]
    exact ReadSig_yes t w h.1 h.2
  · have e : rsOk t = false := decide_eq_false h
    rw [e]
    exact ReadSig_no t w ht h

/-- what stands behind each field that was cut -/
def SrH (w w1 : World) (x : Int) (v1 v2 v3 : Value) : Prop := SgM w1 w.heap.size 0 (.slice none 0 0) (.slice none 0 0) (.slice none 0 0) ∧ SgM w1 (w.heap.size + 1) x v1 v2 v3 ∧ Below w.heap.size w w1
theorem SrH.later {w w1 w2 : World} {x : Int} {v1 v2 v3 : Value} (h : SrH w w1 x v1 v2 v3) (hb : Below w1.heap.size w1 w2) : SrH w w2 x v1 v2 v3 := ⟨h.1.later hb, h.2.1.later hb, h.2.2.trans (hb.mono h.2.2.size)⟩

end Go.Proofs.YtaejeemjndmjcaaDoor
/-
  A seal read from its text: the program's answer.
-/
namespace Go.Proofs.YtaejeemjndmjcaaDoor
open Go.RowKit Go.BigFrame Go.Sort
set_option linter.unusedVariables false
set_option linter.unusedSimpArgs false

theorem below_setRL {B : Nat} {w0 w : World} {g : Nat} (h : Below B w0 w) (hB : B ≤ g) (hw : B ≤ w.heap.size) (cs : Array Value) : Below B w0 (w.setRow g cs) :=
  h.grown (grown_setRow w g cs) hw (fun k hk => by simp at hk; omega)
def zSl : Array Value := #[.int .i64 0, .int .i64 0, .string ⟨#[]⟩, .string ⟨#[]⟩, .int .i64 0, .slice none 0 0, .slice none 0 0, .slice none 0 0]
def zHd : Hd := ⟨0, 0, ⟨#[]⟩, ⟨#[]⟩⟩
section
variable {w : World} {ops : Array Oper} {rest : List Oper} {o : Oper} {a : Act} {Q : Exit → Act → World → Prop}
theorem load_seal {g : Nat} {x : Hd} {y : Int} {v1 v2 v3 : Value} (hA : SlB 30 w g x y v1 v2 v3) : (loadVar 30 ⟨g, 0, none⟩).run Tryd.prog w = .ok (.agg #[.int .i64 x.h, .int .i64 x.e, .string x.r, .string x.p, .int .i64 y, v1, v2, v3]) w :=
  run_loadVar_row (P := Tryd.prog) w g 30 30 _ (0, 0) _ hA Tryd.underlying30 rfl sizeSeal
/-- a seal loaded whole -/
theorem wp_loadSl (hgd : o.guard = none) (p : Operand) (ho : o.op = .load 30 p) (g : Nat) (x : Hd) (y : Int) (v1 v2 v3 : Value) (hp : a.eval p = .pointer (some ⟨g, 0, none⟩)) (hA : SlB 30 w g x y v1 v2 v3)
    (h : wpList Tryd.prog ops Q rest (a.put o.dst (.agg #[.int .i64 x.h, .int .i64 x.e, .string x.r, .string x.p, .int .i64 y, v1, v2, v3])) w) : wpList Tryd.prog ops Q (o :: rest) a w := by
  refine wpList_plain hgd fun K hK => ?_
  have hr : (Instr.loadAt 30 (.pointer (some ⟨g, 0, none⟩))).run Tryd.prog w = .ok (.agg #[.int .i64 x.h, .int .i64 x.e, .string x.r, .string x.p, .int .i64 y, v1, v2, v3]) w := by
    simp only [Instr.loadAt, Instr.sureAddr, Sem.run_bind, Sem.run_pure, Result.andThen]
    exact load_seal hA
  unfold Oper.wp
  simp [execOp, ho, hp, hr, Result.andThen]
  exact hK _ _ h
theorem store_seal {g : Nat} {x : Hd} {y : Int} {v1 v2 v3 : Value} (hA : SlB 30 w g x y v1 v2 v3) (x' : Hd) (y' : Int) (u1 u2 u3 : Value) (h1 : u1.oneCell' = true) (h2 : u2.oneCell' = true) (h3 : u3.oneCell' = true) :
    (Instr.storeAt 30 (.pointer (some ⟨g, 0, none⟩)) (.agg #[.int .i64 x'.h, .int .i64 x'.e, .string x'.r, .string x'.p, .int .i64 y', u1, u2, u3])).run Tryd.prog w = .ok () (w.setRow g #[.int .i64 x'.h, .int .i64 x'.e, .string x'.r, .string x'.p, .int .i64 y', u1, u2, u3]) := by
  simp only [Instr.storeAt, Instr.sureAddr, Sem.run_bind, Sem.run_pure, Result.andThen]
  refine run_storeVar_row w g 30 30 _ _ hA sizeSeal rfl ?_
  simp [h1, h2, h3]
  exact ⟨rfl, rfl, rfl, rfl, rfl⟩
theorem SlB.setR {T : Nat} {g : Nat} {x : Hd} {y : Int} {v1 v2 v3 : Value} (hA : SlB T w g x y v1 v2 v3) (x' : Hd) (y' : Int) (u1 u2 u3 : Value) : SlB T (w.setRow g #[.int .i64 x'.h, .int .i64 x'.e, .string x'.r, .string x'.p, .int .i64 y', u1, u2, u3]) g x' y' u1 u2 u3 := setRow_heap w g _ _ _ _ hA
/-- a seal stored whole -/
theorem wp_storeSl (hgd : o.guard = none) (p v : Operand) (ho : o.op = .store 30 p v) (g : Nat) (x x' : Hd) (y y' : Int) (v1 v2 v3 u1 u2 u3 : Value) (hA : SlB 30 w g x y v1 v2 v3) (hp : a.eval p = .pointer (some ⟨g, 0, none⟩)) (hv : a.eval v = .agg #[.int .i64 x'.h, .int .i64 x'.e, .string x'.r, .string x'.p, .int .i64 y', u1, u2, u3])
    (h1 : u1.oneCell' = true) (h2 : u2.oneCell' = true) (h3 : u3.oneCell' = true)
    (h : SlB 30 (w.setRow g #[.int .i64 x'.h, .int .i64 x'.e, .string x'.r, .string x'.p, .int .i64 y', u1, u2, u3]) g x' y' u1 u2 u3 → wpList Tryd.prog ops Q rest (a.put o.dst (.tuple #[])) (w.setRow g #[.int .i64 x'.h, .int .i64 x'.e, .string x'.r, .string x'.p, .int .i64 y', u1, u2, u3])) : wpList Tryd.prog ops Q (o :: rest) a w := by
  refine wpList_plain hgd fun K hK => ?_
  have hr := store_seal hA x' y' u1 u2 u3 h1 h2 h3
  unfold Oper.wp
  simp [execOp, ho, hp, hv, hr, Result.andThen]
  exact hK _ _ (h (hA.setR x' y' u1 u2 u3))
end

set_option maxRecDepth 100000 in
set_option maxHeartbeats 1000000 in
theorem ReadSeal_any (t : ByteArray) (w : World) (ht : t.size ≤ 1048576) : Calls Tryd.prog 9 #[.string t] w (RlsP t w) := by
  have HB : Hid (Below w.heap.size w (w.alloc (.cells zSl 30)) ∧ SlB 30 (w.alloc (.cells zSl 30)) w.heap.size zHd 0 (.slice none 0 0) (.slice none 0 0) (.slice none 0 0)) := ⟨(Below.refl _ _).alloc (Nat.le_refl _) _, SlB.new _ _ zHd _ _ _ _⟩
  have hc := ReadShort_at t 0 0 (w.alloc (.cells zSl 30)) rfl ht (by omega)
  cases hs : LV.shortAt t 0 with
  | none =>
    rw [hs] at hc
    simp only at hc
    have HNO : Hid (rlOk t = false) := rl_none hs
    clear hs
    go_enter Tryd.func9, Tryd.ntmps9
    go_wp2_with fail
    refine hc.mono ?_
    rintro e1 w1 ⟨rfl, hb1⟩
    have HB1 : Hid (Below w.heap.size w w1 ∧ SlB 30 w1 w.heap.size zHd 0 (.slice none 0 0) (.slice none 0 0) (.slice none 0 0)) := ⟨HB.out.1.trans (hb1.mono HB.out.1.size), HB.out.2.later hb1⟩
    clear hb1 HB hc
    go_wp2_with (first | (refine wp_storeSl rfl _ _ rfl w.heap.size zHd zHd 0 0 _ _ _ _ _ _ HB1.out.2 rfl rfl rfl rfl rfl ?_; intro hst) | fail)
    exact ret_sl2 2 3 w.heap.size zHd 0 _ _ _ _ rfl rfl rfl rfl hst (RlsP.no HNO.out (below_setRL HB1.out.1 (Nat.le_refl _) HB1.out.1.size _))
  | some y =>
    obtain ⟨X, q⟩ := y
    rw [hs] at hc
    simp only at hc
    have hz := (short_rest hs).1
    have hxz := LV.shortAt_size hs
    have HRL : Hid (rlOk t = (HV.rdOk X && rsOk (t.extract q t.size)) ∧ rlX t = X ∧ rlR t = t.extract q t.size) := rl_some hs
    have hsl := run_endH t (q : Int) q rfl hz
    have huz : (t.extract q t.size).size ≤ 1048576 := by rw [ByteArray.size_extract]; omega
    have HRH : Hid (∀ W, Calls Tryd.prog 35 #[.string X] W fun e w' => e = .returned (.tuple #[.agg #[.int .i64 (HV.rdA X).h, .int .i64 (HV.rdA X).e, .string (HV.rdA X).r, .string (HV.rdA X).p], .bool (HV.rdOk X)]) ∧ Below W.heap.size W w') := fun W => ReadHead_any X W (by omega)
    have HRS : Hid (∀ W, Calls Tryd.prog 36 #[.string (t.extract q t.size)] W fun e w' => ∃ a1 n1 c1 a2 n2 c2 a3 n3 c3, e = .returned (.tuple #[.agg #[.int .i64 (rsA (t.extract q t.size)), .slice a1 n1 c1, .slice a2 n2 c2, .slice a3 n3 c3], .bool (rsOk (t.extract q t.size))]) ∧ SigIn w' W.heap.size (.agg #[.int .i64 (rsA (t.extract q t.size)), .slice a1 n1 c1, .slice a2 n2 c2, .slice a3 n3 c3]) (rsA (t.extract q t.size)) (rsO (t.extract q t.size)) (rsS (t.extract q t.size)) (rsD (t.extract q t.size)) ∧ Below W.heap.size W w') := fun W => by
      refine (ReadSig_any _ W huz).mono ?_
      rintro e w' ⟨v, he, hsi, hb⟩
      obtain ⟨v1, v2, v3, g1, g2, g3, rfl, ⟨t1, t2, t3⟩, hh1, hh2⟩ := id hsi
      obtain ⟨a1, c1, rfl, _⟩ := id t1
      obtain ⟨a2, c2, rfl, _⟩ := id t2
      obtain ⟨a3, c3, rfl, _⟩ := id t3
      exact ⟨a1, _, c1, a2, _, c2, a3, _, c3, he, hsi, hb⟩
    clear hs huz
    have HFN : Hid (∀ W, (HV.rdOk X && rsOk (t.extract q t.size)) = false → Below w.heap.size w W → RlsP t w (.returned (.tuple #[.agg #[.int .i64 0, .int .i64 0, .string ⟨#[]⟩, .string ⟨#[]⟩, .int .i64 0, .slice none 0 0, .slice none 0 0, .slice none 0 0], .bool false])) W) := fun W h hb => RlsP.no (by rw [HRL.out.1]; exact h) hb
    have HFY : Hid (∀ W v, (HV.rdOk X && rsOk (t.extract q t.size)) = true → SealIn W w.heap.size v (HV.rdA X) (rsA (t.extract q t.size)) (rsO (t.extract q t.size)) (rsS (t.extract q t.size)) (rsD (t.extract q t.size)) → Below w.heap.size w W → RlsP t w (.returned (.tuple #[v, .bool true])) W) := fun W v h hv hb => RlsP.yes (by rw [HRL.out.1]; exact h) (by rw [HRL.out.2.1, HRL.out.2.2]; exact hv) hb
    clear HRL
    generalize t.extract q t.size = U at *
    generalize rsA U = A at *
    generalize rsO U = O at *
    generalize rsS U = S at *
    generalize rsD U = D at *
    generalize rsOk U = b2 at *
    generalize HV.rdOk X = b1 at *
    generalize HV.rdA X = H at *
    obtain ⟨h, e, r, p⟩ := H
    simp only at HRH
    go_enter Tryd.func9, Tryd.ntmps9
    go_wp2_with fail
    refine hc.mono ?_
    rintro e1 w1 ⟨rfl, hb1⟩
    have HB1 : Hid (Below w.heap.size w w1 ∧ SlB 30 w1 w.heap.size zHd 0 (.slice none 0 0) (.slice none 0 0) (.slice none 0 0)) := ⟨HB.out.1.trans (hb1.mono HB.out.1.size), HB.out.2.later hb1⟩
    clear hb1 HB hc
    go_wp2_with fail
    refine (HRH.out _).mono ?_
    rintro e2 w2 ⟨rfl, hb2⟩
    have HB2 : Hid (Below w.heap.size w (w2.alloc (.cells #[.int .i64 h, .int .i64 e, .string r, .string p] 25)) ∧ SlB 30 (w2.alloc (.cells #[.int .i64 h, .int .i64 e, .string r, .string p] 25)) w.heap.size zHd 0 (.slice none 0 0) (.slice none 0 0) (.slice none 0 0) ∧ BH (w2.alloc (.cells #[.int .i64 h, .int .i64 e, .string r, .string p] 25)) w2.heap.size ⟨h, e, r, p⟩) := by
      have k1 := HB1.out.1.trans (hb2.mono HB1.out.1.size)
      exact ⟨k1.alloc k1.size _, (HB1.out.2.later hb2).later ((Below.refl _ _).alloc (Nat.le_refl _) _), BH.new w2 ⟨h, e, r, p⟩⟩
    clear hb2 HB1 HRH
    go_wp2_with fail
    refine (HRS.out _).mono ?_
    rintro e3 w3 ⟨a1, n1, c1, a2, n2, c2, a3, n3, c3, rfl, hsi, hb3⟩
    have hA3 : Below w3.heap.size w3 (w3.alloc (.cells #[.int .i64 A, .slice a1 n1 c1, .slice a2 n2 c2, .slice a3 n3 c3] 28)) := (Below.refl _ _).alloc (Nat.le_refl _) _
    have HB3 : Hid (Below w.heap.size w (w3.alloc (.cells #[.int .i64 A, .slice a1 n1 c1, .slice a2 n2 c2, .slice a3 n3 c3] 28)) ∧ SlB 30 (w3.alloc (.cells #[.int .i64 A, .slice a1 n1 c1, .slice a2 n2 c2, .slice a3 n3 c3] 28)) w.heap.size zHd 0 (.slice none 0 0) (.slice none 0 0) (.slice none 0 0) ∧ BH (w3.alloc (.cells #[.int .i64 A, .slice a1 n1 c1, .slice a2 n2 c2, .slice a3 n3 c3] 28)) w2.heap.size ⟨h, e, r, p⟩ ∧ SgM (w3.alloc (.cells #[.int .i64 A, .slice a1 n1 c1, .slice a2 n2 c2, .slice a3 n3 c3] 28)) w3.heap.size A (.slice a1 n1 c1) (.slice a2 n2 c2) (.slice a3 n3 c3)) := by
      have k1 := HB2.out.1.trans (hb3.mono HB2.out.1.size)
      exact ⟨k1.alloc k1.size _, (HB2.out.2.1.later hb3).later hA3, (HB2.out.2.2.later hb3).later hA3, SgM.new _ _ _ _ _⟩
    have HSI : Hid (SealIn ((w3.alloc (.cells #[.int .i64 A, .slice a1 n1 c1, .slice a2 n2 c2, .slice a3 n3 c3] 28)).setRow w.heap.size #[.int .i64 h, .int .i64 e, .string r, .string p, .int .i64 A, .slice a1 n1 c1, .slice a2 n2 c2, .slice a3 n3 c3]) w.heap.size (.agg #[.int .i64 h, .int .i64 e, .string r, .string p, .int .i64 A, .slice a1 n1 c1, .slice a2 n2 c2, .slice a3 n3 c3]) ⟨h, e, r, p⟩ A O S D) := by
      refine ⟨_, _, _, rfl, ?_⟩
      have hlt : w.heap.size < (w2.alloc (.cells #[.int .i64 h, .int .i64 e, .string r, .string p] 25)).heap.size := HB2.out.2.1.lt
      obtain ⟨v1, v2, v3, g1, g2, g3, hv, ⟨t1, t2, t3⟩, ⟨l1, l2, l3⟩, hne⟩ := hsi
      simp at hv
      obtain ⟨rfl, rfl, rfl⟩ := hv
      have hg := grown_setRow (w3.alloc (.cells #[.int .i64 A, .slice a1 n1 c1, .slice a2 n2 c2, .slice a3 n3 c3] 28)) w.heap.size #[.int .i64 h, .int .i64 e, .string r, .string p, .int .i64 A, .slice a1 n1 c1, .slice a2 n2 c2, .slice a3 n3 c3]
      exact ⟨_, _, _, g1, g2, g3, rfl, ⟨(t1.later hA3).keptG hg (fun _ => by simp; omega), (t2.later hA3).keptG hg (fun _ => by simp; omega), (t3.later hA3).keptG hg (fun _ => by simp; omega)⟩, ⟨by omega, by omega, by omega⟩, hne⟩
    clear hsi hb3 hA3 HB2 HRS hsl
    cases b1
    · go_wp2_with (first | (refine wp_storeSl rfl _ _ rfl w.heap.size zHd zHd 0 0 _ _ _ _ _ _ HB3.out.2.1 rfl rfl rfl rfl rfl ?_; intro hst) | fail)
      exact ret_sl2 2 3 w.heap.size zHd 0 _ _ _ _ rfl rfl rfl rfl hst (HFN.out _ rfl (below_setRL HB3.out.1 (Nat.le_refl _) HB3.out.1.size _))
    · cases b2
      · go_wp2_with (first | (refine wp_storeSl rfl _ _ rfl w.heap.size zHd zHd 0 0 _ _ _ _ _ _ HB3.out.2.1 rfl rfl rfl rfl rfl ?_; intro hst) | fail)
        exact ret_sl2 2 3 w.heap.size zHd 0 _ _ _ _ rfl rfl rfl rfl hst (HFN.out _ rfl (below_setRL HB3.out.1 (Nat.le_refl _) HB3.out.1.size _))
      · have z0 := HB3.out.2.2.1.c0
        have z1 := HB3.out.2.2.1.c1
        have z2 := HB3.out.2.2.1.c2
        have z3 := HB3.out.2.2.1.c3
        have y0 := HB3.out.2.2.2.c0
        have y1 := HB3.out.2.2.2.c1
        have y2 := HB3.out.2.2.2.c2
        have y3 := HB3.out.2.2.2.c3
        simp only at z0 z1 z2 z3
        go_wp2_with (first | (refine wp_storeSl rfl _ _ rfl w.heap.size zHd ⟨h, e, r, p⟩ 0 A _ _ _ _ _ _ HB3.out.2.1 rfl rfl rfl rfl rfl ?_; intro hst) | fail)
        exact ret_sl2 2 3 w.heap.size ⟨h, e, r, p⟩ A _ _ _ _ rfl rfl rfl rfl hst (HFY.out _ _ rfl HSI.out (below_setRL HB3.out.1 (Nat.le_refl _) HB3.out.1.size _))

end Go.Proofs.YtaejeemjndmjcaaDoor
/-
  Where a seal and a stamp are signed: the program's and the specification's answers.
-/
namespace Go.Proofs.YtaejeemjndmjcaaDoor
open Go.RowKit Go.BigFrame Go.Sort
set_option linter.unusedVariables false
set_option linter.unusedSimpArgs false

/-- where a seal of this epoch is signed -/
def sealP (e : Int) : Int := if 1 ≤ e ∧ e ≤ 4 then e - 1 else -1
/-- where a stamp is signed -/
def stampP (h e : Int) : Int := if (0 ≤ h ∧ h < 3) ∧ (1 ≤ e ∧ e ≤ 4) then 4 * (h + 1) + e - 1 else -1
theorem sealP_in (e : Int) : -1 ≤ sealP e ∧ sealP e ≤ 3 := by
  unfold sealP
  split <;> omega
theorem stampP_in (h e : Int) : -1 ≤ stampP h e ∧ stampP h e ≤ 15 := by
  unfold stampP
  split <;> omega

theorem SealAt_any (x : Int) (w : World) : Calls Tryd.prog 18 #[.int .i64 x] w fun e w' => e = .returned (.int .i64 (sealP x)) ∧ w' = w := by
  unfold sealP
  by_cases h : 1 ≤ x ∧ x ≤ 4
  · rw [if_pos h]
    have hd : decide (1 ≤ x ∧ x ≤ 4) = true := decide_eq_true h
    obtain ⟨h1, h2⟩ := h
    go_enter Tryd.func18, Tryd.ntmps18
    go_wp2_with fail
    refine (epochOk_any _ _).mono ?_
    rintro e w1 ⟨rfl, rfl⟩
    rw [hd]
    go_wp2
    go_ret
    exact ⟨rfl, rfl⟩
  · rw [if_neg h]
    have hd : decide (1 ≤ x ∧ x ≤ 4) = false := decide_eq_false h
    clear h
    go_enter Tryd.func18, Tryd.ntmps18
    go_wp2_with fail
    refine (epochOk_any _ _).mono ?_
    rintro e w1 ⟨rfl, rfl⟩
    rw [hd]
    go_wp2
    go_ret
    exact ⟨rfl, rfl⟩
theorem sSealAt_any (x : Int) (w : World) : Calls Tryd.prog 93 #[.int .i64 x] w fun e w' => e = .returned (.int .i64 (sealP x)) ∧ w' = w := by
  unfold sealP
  by_cases h : 1 ≤ x ∧ x ≤ 4
  · rw [if_pos h]
    have hd : decide (1 ≤ x ∧ x ≤ 4) = true := decide_eq_true h
    obtain ⟨h1, h2⟩ := h
    go_enter Tryd.func93, Tryd.ntmps93
    go_wp2_with fail
    refine (l01In_any _ _ _ _).mono ?_
    rintro e w1 ⟨rfl, rfl⟩
    rw [hd]
    go_wp2
    go_ret
    exact ⟨rfl, rfl⟩
  · rw [if_neg h]
    have hd : decide (1 ≤ x ∧ x ≤ 4) = false := decide_eq_false h
    clear h
    go_enter Tryd.func93, Tryd.ntmps93
    go_wp2_with fail
    refine (l01In_any _ _ _ _).mono ?_
    rintro e w1 ⟨rfl, rfl⟩
    rw [hd]
    go_wp2
    go_ret
    exact ⟨rfl, rfl⟩

theorem StampAt_any (h x : Int) (w : World) : Calls Tryd.prog 23 #[.int .i64 h, .int .i64 x] w fun e w' => e = .returned (.int .i64 (stampP h x)) ∧ w' = w := by
  unfold stampP
  by_cases h1 : 0 ≤ h ∧ h < 3
  · have d1 : decide (0 ≤ h ∧ h < 3) = true := decide_eq_true h1
    by_cases h2 : 1 ≤ x ∧ x ≤ 4
    · rw [if_pos ⟨h1, h2⟩]
      have d2 : decide (1 ≤ x ∧ x ≤ 4) = true := decide_eq_true h2
      obtain ⟨h3, h4⟩ := h1
      obtain ⟨h5, h6⟩ := h2
      go_enter Tryd.func23, Tryd.ntmps23
      go_wp2_with fail
      refine (houseOk_any _ _).mono ?_
      rintro e w1 ⟨rfl, rfl⟩
      rw [d1]
      go_wp2_with fail
      refine (epochOk_any _ _).mono ?_
      rintro e w2 ⟨rfl, rfl⟩
      rw [d2]
      go_wp2
      go_ret
      exact ⟨rfl, rfl⟩
    · rw [if_neg (fun h => h2 h.2)]
      have d2 : decide (1 ≤ x ∧ x ≤ 4) = false := decide_eq_false h2
      clear h1 h2
      go_enter Tryd.func23, Tryd.ntmps23
      go_wp2_with fail
      refine (houseOk_any _ _).mono ?_
      rintro e w1 ⟨rfl, rfl⟩
      rw [d1]
      go_wp2_with fail
      refine (epochOk_any _ _).mono ?_
      rintro e w2 ⟨rfl, rfl⟩
      rw [d2]
      go_wp2
      go_ret
      exact ⟨rfl, rfl⟩
  · rw [if_neg (fun h => h1 h.1)]
    have d1 : decide (0 ≤ h ∧ h < 3) = false := decide_eq_false h1
    clear h1
    go_enter Tryd.func23, Tryd.ntmps23
    go_wp2_with fail
    refine (houseOk_any _ _).mono ?_
    rintro e w1 ⟨rfl, rfl⟩
    rw [d1]
    go_wp2
    go_ret
    exact ⟨rfl, rfl⟩
theorem sStampAt_any (h x : Int) (w : World) : Calls Tryd.prog 61 #[.int .i64 h, .int .i64 x] w fun e w' => e = .returned (.int .i64 (stampP h x)) ∧ w' = w := by
  unfold stampP
  by_cases h1 : 0 ≤ h ∧ h < 3
  · have d1 : decide (0 ≤ h ∧ h ≤ 2) = true := decide_eq_true ⟨h1.1, by omega⟩
    by_cases h2 : 1 ≤ x ∧ x ≤ 4
    · rw [if_pos ⟨h1, h2⟩]
      have d2 : decide (1 ≤ x ∧ x ≤ 4) = true := decide_eq_true h2
      obtain ⟨h3, h4⟩ := h1
      obtain ⟨h5, h6⟩ := h2
      go_enter Tryd.func61, Tryd.ntmps61
      go_wp2_with fail
      refine (l01In_any _ _ _ _).mono ?_
      rintro e w1 ⟨rfl, rfl⟩
      rw [d1]
      go_wp2_with fail
      refine (l01In_any _ _ _ _).mono ?_
      rintro e w2 ⟨rfl, rfl⟩
      rw [d2]
      go_wp2
      go_ret
      exact ⟨rfl, rfl⟩
    · rw [if_neg (fun h => h2 h.2)]
      have d2 : decide (1 ≤ x ∧ x ≤ 4) = false := decide_eq_false h2
      clear h1 h2
      go_enter Tryd.func61, Tryd.ntmps61
      go_wp2_with fail
      refine (l01In_any _ _ _ _).mono ?_
      rintro e w1 ⟨rfl, rfl⟩
      rw [d1]
      go_wp2_with fail
      refine (l01In_any _ _ _ _).mono ?_
      rintro e w2 ⟨rfl, rfl⟩
      rw [d2]
      go_wp2
      go_ret
      exact ⟨rfl, rfl⟩
  · rw [if_neg (fun h => h1 h.1)]
    have d1 : decide (0 ≤ h ∧ h ≤ 2) = false := decide_eq_false (fun h => h1 ⟨h.1, by omega⟩)
    clear h1
    go_enter Tryd.func61, Tryd.ntmps61
    go_wp2_with fail
    refine (l01In_any _ _ _ _).mono ?_
    rintro e w1 ⟨rfl, rfl⟩
    rw [d1]
    go_wp2
    go_ret
    exact ⟨rfl, rfl⟩

end Go.Proofs.YtaejeemjndmjcaaDoor
