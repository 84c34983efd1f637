/-
  Texts laid together: Xd, Xg, Wyb, Wt.
-/
import Derived.Test.YtfojmagcoipbnaaQ22
import Derived.Test.YtfojmagcoipbnaaQ19
import Derived.Test.YtfojmagcoipbnaaQ20
import Derived.Deep.CutRange
import Derived.Test.YtfojmagcoipbnaaQ09
import Derived.Test.YtfojmagcoipbnaaQ08
import Derived.Test.YtfojmagcoipbnaaQ14
import Derived.Test.YtfojmagcoipbnaaQ21
/-
  A seal read from its text: the program's answer.
-/
namespace Go.Proofs.Ytfojmagcoipbnaa
open Go.RowKit Go.BigFrame Go.Sort
set_option linter.unusedVariables false
set_option linter.unusedSimpArgs false

theorem below_setRL {B : Nat} {w0 w : World} {g : Nat} (h : Below B w0 w) (hB : B ≤ g) (hw : B ≤ w.heap.size) (cs : Array Value) : Below B w0 (w.setRow g cs) :=
  h.grown (grown_setRow w g cs) hw (fun k hk => by simp at hk; omega)
def zSl : Array Value := #[.int .i64 0, .int .i64 0, .string ⟨#[]⟩, .string ⟨#[]⟩, .int .i64 0, .slice none 0 0, .slice none 0 0, .slice none 0 0]
def zHd : Hd := ⟨0, 0, ⟨#[]⟩, ⟨#[]⟩⟩
section
variable {w : World} {ops : Array Oper} {rest : List Oper} {o : Oper} {a : Act} {Q : Exit → Act → World → Prop}
theorem load_seal {g : Nat} {x : Hd} {y : Int} {v1 v2 v3 : Value} (hA : SlB 61 w g x y v1 v2 v3) : (loadVar 61 ⟨g, 0, none⟩).run Try.prog w = .ok (.agg #[.int .i64 x.h, .int .i64 x.e, .string x.r, .string x.p, .int .i64 y, v1, v2, v3]) w :=
  run_loadVar_row (P := Try.prog) w g 61 61 _ (0, 0) _ hA Try.underlying61 rfl sizeSeal
/-- a seal loaded whole -/
theorem wp_loadSl (hgd : o.guard = none) (p : Operand) (ho : o.op = .load 61 p) (g : Nat) (x : Hd) (y : Int) (v1 v2 v3 : Value) (hp : a.eval p = .pointer (some ⟨g, 0, none⟩)) (hA : SlB 61 w g x y v1 v2 v3)
    (h : wpList Try.prog ops Q rest (a.put o.dst (.agg #[.int .i64 x.h, .int .i64 x.e, .string x.r, .string x.p, .int .i64 y, v1, v2, v3])) w) : wpList Try.prog ops Q (o :: rest) a w := by
  refine wpList_plain hgd fun K hK => ?_
  have hr : (Instr.loadAt 61 (.pointer (some ⟨g, 0, none⟩))).run Try.prog w = .ok (.agg #[.int .i64 x.h, .int .i64 x.e, .string x.r, .string x.p, .int .i64 y, v1, v2, v3]) w := by
    simp only [Instr.loadAt, Instr.sureAddr, Sem.run_bind, Sem.run_pure, Result.andThen]
    exact load_seal hA
  unfold Oper.wp
  simp [execOp, ho, hp, hr, Result.andThen]
  exact hK _ _ h
theorem store_seal {g : Nat} {x : Hd} {y : Int} {v1 v2 v3 : Value} (hA : SlB 61 w g x y v1 v2 v3) (x' : Hd) (y' : Int) (u1 u2 u3 : Value) (h1 : u1.oneCell' = true) (h2 : u2.oneCell' = true) (h3 : u3.oneCell' = true) :
    (Instr.storeAt 61 (.pointer (some ⟨g, 0, none⟩)) (.agg #[.int .i64 x'.h, .int .i64 x'.e, .string x'.r, .string x'.p, .int .i64 y', u1, u2, u3])).run Try.prog w = .ok () (w.setRow g #[.int .i64 x'.h, .int .i64 x'.e, .string x'.r, .string x'.p, .int .i64 y', u1, u2, u3]) := by
  simp only [Instr.storeAt, Instr.sureAddr, Sem.run_bind, Sem.run_pure, Result.andThen]
  refine run_storeVar_row w g 61 61 _ _ hA sizeSeal rfl ?_
  simp [h1, h2, h3]
  exact ⟨rfl, rfl, rfl, rfl, rfl⟩
theorem SlB.setR {T : Nat} {g : Nat} {x : Hd} {y : Int} {v1 v2 v3 : Value} (hA : SlB T w g x y v1 v2 v3) (x' : Hd) (y' : Int) (u1 u2 u3 : Value) : SlB T (w.setRow g #[.int .i64 x'.h, .int .i64 x'.e, .string x'.r, .string x'.p, .int .i64 y', u1, u2, u3]) g x' y' u1 u2 u3 := setRow_heap w g _ _ _ _ hA
/-- a seal stored whole -/
theorem wp_storeSl (hgd : o.guard = none) (p v : Operand) (ho : o.op = .store 61 p v) (g : Nat) (x x' : Hd) (y y' : Int) (v1 v2 v3 u1 u2 u3 : Value) (hA : SlB 61 w g x y v1 v2 v3) (hp : a.eval p = .pointer (some ⟨g, 0, none⟩)) (hv : a.eval v = .agg #[.int .i64 x'.h, .int .i64 x'.e, .string x'.r, .string x'.p, .int .i64 y', u1, u2, u3])
    (h1 : u1.oneCell' = true) (h2 : u2.oneCell' = true) (h3 : u3.oneCell' = true)
    (h : SlB 61 (w.setRow g #[.int .i64 x'.h, .int .i64 x'.e, .string x'.r, .string x'.p, .int .i64 y', u1, u2, u3]) g x' y' u1 u2 u3 → wpList Try.prog ops Q rest (a.put o.dst (.tuple #[])) (w.setRow g #[.int .i64 x'.h, .int .i64 x'.e, .string x'.r, .string x'.p, .int .i64 y', u1, u2, u3])) : wpList Try.prog ops Q (o :: rest) a w := by
  refine wpList_plain hgd fun K hK => ?_
  have hr := store_seal hA x' y' u1 u2 u3 h1 h2 h3
  unfold Oper.wp
  simp [execOp, ho, hp, hv, hr, Result.andThen]
  exact hK _ _ (h (hA.setR x' y' u1 u2 u3))
end

set_option maxRecDepth 100000 in
set_option maxHeartbeats 1000000 in
theorem ReadSeal_any (t : ByteArray) (w : World) (ht : t.size ≤ 1048576) : Calls Try.prog 113 #[.string t] w (RlsP t w) := by
  have HB : Hid (Below w.heap.size w (w.alloc (.cells zSl 61)) ∧ SlB 61 (w.alloc (.cells zSl 61)) w.heap.size zHd 0 (.slice none 0 0) (.slice none 0 0) (.slice none 0 0)) := ⟨(Below.refl _ _).alloc (Nat.le_refl _) _, SlB.new _ _ zHd _ _ _ _⟩
  have hc := ReadShort_at t 0 0 (w.alloc (.cells zSl 61)) rfl ht (by omega)
  cases hs : LV.shortAt t 0 with
  | none =>
    rw [hs] at hc
    simp only at hc
    have HNO : Hid (rlOk t = false) := rl_none hs
    clear hs
    go_enter Try.func113, Try.ntmps113
    go_wp2_with fail
    refine hc.mono ?_
    rintro e1 w1 ⟨rfl, hb1⟩
    have HB1 : Hid (Below w.heap.size w w1 ∧ SlB 61 w1 w.heap.size zHd 0 (.slice none 0 0) (.slice none 0 0) (.slice none 0 0)) := ⟨HB.out.1.trans (hb1.mono HB.out.1.size), HB.out.2.later hb1⟩
    clear hb1 HB hc
    go_wp2_with (first | (refine wp_storeSl rfl _ _ rfl w.heap.size zHd zHd 0 0 _ _ _ _ _ _ HB1.out.2 rfl rfl rfl rfl rfl ?_; intro hst) | fail)
    exact ret_sl2 2 3 w.heap.size zHd 0 _ _ _ _ rfl rfl rfl rfl hst (RlsP.no HNO.out (below_setRL HB1.out.1 (Nat.le_refl _) HB1.out.1.size _))
  | some y =>
    obtain ⟨X, q⟩ := y
    rw [hs] at hc
    simp only at hc
    have hz := (short_rest hs).1
    have hxz := LV.shortAt_size hs
    have HRL : Hid (rlOk t = (HV.rdOk X && rsOk (t.extract q t.size)) ∧ rlX t = X ∧ rlR t = t.extract q t.size) := rl_some hs
    have hsl := run_endH t (q : Int) q rfl hz
    have huz : (t.extract q t.size).size ≤ 1048576 := by rw [ByteArray.size_extract]; omega
    have HRH : Hid (∀ W, Calls Try.prog 132 #[.string X] W fun e w' => e = .returned (.tuple #[.agg #[.int .i64 (HV.rdA X).h, .int .i64 (HV.rdA X).e, .string (HV.rdA X).r, .string (HV.rdA X).p], .bool (HV.rdOk X)]) ∧ Below W.heap.size W w') := fun W => ReadHead_any X W (by omega)
    have HRS : Hid (∀ W, Calls Try.prog 133 #[.string (t.extract q t.size)] W fun e w' => ∃ a1 n1 c1 a2 n2 c2 a3 n3 c3, e = .returned (.tuple #[.agg #[.int .i64 (rsA (t.extract q t.size)), .slice a1 n1 c1, .slice a2 n2 c2, .slice a3 n3 c3], .bool (rsOk (t.extract q t.size))]) ∧ SigIn w' W.heap.size (.agg #[.int .i64 (rsA (t.extract q t.size)), .slice a1 n1 c1, .slice a2 n2 c2, .slice a3 n3 c3]) (rsA (t.extract q t.size)) (rsO (t.extract q t.size)) (rsS (t.extract q t.size)) (rsD (t.extract q t.size)) ∧ Below W.heap.size W w') := fun W => by
      refine (ReadSig_any _ W huz).mono ?_
      rintro e w' ⟨v, he, hsi, hb⟩
      obtain ⟨v1, v2, v3, g1, g2, g3, rfl, ⟨t1, t2, t3⟩, hh1, hh2⟩ := id hsi
      obtain ⟨a1, c1, rfl, _⟩ := id t1
      obtain ⟨a2, c2, rfl, _⟩ := id t2
      obtain ⟨a3, c3, rfl, _⟩ := id t3
      exact ⟨a1, _, c1, a2, _, c2, a3, _, c3, he, hsi, hb⟩
    clear hs huz
    have HFN : Hid (∀ W, (HV.rdOk X && rsOk (t.extract q t.size)) = false → Below w.heap.size w W → RlsP t w (.returned (.tuple #[.agg #[.int .i64 0, .int .i64 0, .string ⟨#[]⟩, .string ⟨#[]⟩, .int .i64 0, .slice none 0 0, .slice none 0 0, .slice none 0 0], .bool false])) W) := fun W h hb => RlsP.no (by rw [HRL.out.1]; exact h) hb
    have HFY : Hid (∀ W v, (HV.rdOk X && rsOk (t.extract q t.size)) = true → SealIn W w.heap.size v (HV.rdA X) (rsA (t.extract q t.size)) (rsO (t.extract q t.size)) (rsS (t.extract q t.size)) (rsD (t.extract q t.size)) → Below w.heap.size w W → RlsP t w (.returned (.tuple #[v, .bool true])) W) := fun W v h hv hb => RlsP.yes (by rw [HRL.out.1]; exact h) (by rw [HRL.out.2.1, HRL.out.2.2]; exact hv) hb
    clear HRL
    generalize t.extract q t.size = U at *
    generalize rsA U = A at *
    generalize rsO U = O at *
    generalize rsS U = S at *
    generalize rsD U = D at *
    generalize rsOk U = b2 at *
    generalize HV.rdOk X = b1 at *
    generalize HV.rdA X = H at *
    obtain ⟨h, e, r, p⟩ := H
    simp only at HRH
    go_enter Try.func113, Try.ntmps113
    go_wp2_with fail
    refine hc.mono ?_
    rintro e1 w1 ⟨rfl, hb1⟩
    have HB1 : Hid (Below w.heap.size w w1 ∧ SlB 61 w1 w.heap.size zHd 0 (.slice none 0 0) (.slice none 0 0) (.slice none 0 0)) := ⟨HB.out.1.trans (hb1.mono HB.out.1.size), HB.out.2.later hb1⟩
    clear hb1 HB hc
    go_wp2_with fail
    refine (HRH.out _).mono ?_
    rintro e2 w2 ⟨rfl, hb2⟩
    have HB2 : Hid (Below w.heap.size w (w2.alloc (.cells #[.int .i64 h, .int .i64 e, .string r, .string p] 58)) ∧ SlB 61 (w2.alloc (.cells #[.int .i64 h, .int .i64 e, .string r, .string p] 58)) w.heap.size zHd 0 (.slice none 0 0) (.slice none 0 0) (.slice none 0 0) ∧ BH (w2.alloc (.cells #[.int .i64 h, .int .i64 e, .string r, .string p] 58)) w2.heap.size ⟨h, e, r, p⟩) := by
      have k1 := HB1.out.1.trans (hb2.mono HB1.out.1.size)
      exact ⟨k1.alloc k1.size _, (HB1.out.2.later hb2).later ((Below.refl _ _).alloc (Nat.le_refl _) _), BH.new w2 ⟨h, e, r, p⟩⟩
    clear hb2 HB1 HRH
    go_wp2_with fail
    refine (HRS.out _).mono ?_
    rintro e3 w3 ⟨a1, n1, c1, a2, n2, c2, a3, n3, c3, rfl, hsi, hb3⟩
    have hA3 : Below w3.heap.size w3 (w3.alloc (.cells #[.int .i64 A, .slice a1 n1 c1, .slice a2 n2 c2, .slice a3 n3 c3] 59)) := (Below.refl _ _).alloc (Nat.le_refl _) _
    have HB3 : Hid (Below w.heap.size w (w3.alloc (.cells #[.int .i64 A, .slice a1 n1 c1, .slice a2 n2 c2, .slice a3 n3 c3] 59)) ∧ SlB 61 (w3.alloc (.cells #[.int .i64 A, .slice a1 n1 c1, .slice a2 n2 c2, .slice a3 n3 c3] 59)) w.heap.size zHd 0 (.slice none 0 0) (.slice none 0 0) (.slice none 0 0) ∧ BH (w3.alloc (.cells #[.int .i64 A, .slice a1 n1 c1, .slice a2 n2 c2, .slice a3 n3 c3] 59)) w2.heap.size ⟨h, e, r, p⟩ ∧ SgM (w3.alloc (.cells #[.int .i64 A, .slice a1 n1 c1, .slice a2 n2 c2, .slice a3 n3 c3] 59)) w3.heap.size A (.slice a1 n1 c1) (.slice a2 n2 c2) (.slice a3 n3 c3)) := by
      have k1 := HB2.out.1.trans (hb3.mono HB2.out.1.size)
      exact ⟨k1.alloc k1.size _, (HB2.out.2.1.later hb3).later hA3, (HB2.out.2.2.later hb3).later hA3, SgM.new _ _ _ _ _⟩
    have HSI : Hid (SealIn ((w3.alloc (.cells #[.int .i64 A, .slice a1 n1 c1, .slice a2 n2 c2, .slice a3 n3 c3] 59)).setRow w.heap.size #[.int .i64 h, .int .i64 e, .string r, .string p, .int .i64 A, .slice a1 n1 c1, .slice a2 n2 c2, .slice a3 n3 c3]) w.heap.size (.agg #[.int .i64 h, .int .i64 e, .string r, .string p, .int .i64 A, .slice a1 n1 c1, .slice a2 n2 c2, .slice a3 n3 c3]) ⟨h, e, r, p⟩ A O S D) := by
      refine ⟨_, _, _, rfl, ?_⟩
      have hlt : w.heap.size < (w2.alloc (.cells #[.int .i64 h, .int .i64 e, .string r, .string p] 58)).heap.size := HB2.out.2.1.lt
      obtain ⟨v1, v2, v3, g1, g2, g3, hv, ⟨t1, t2, t3⟩, ⟨l1, l2, l3⟩, hne⟩ := hsi
      simp at hv
      obtain ⟨rfl, rfl, rfl⟩ := hv
      have hg := grown_setRow (w3.alloc (.cells #[.int .i64 A, .slice a1 n1 c1, .slice a2 n2 c2, .slice a3 n3 c3] 59)) w.heap.size #[.int .i64 h, .int .i64 e, .string r, .string p, .int .i64 A, .slice a1 n1 c1, .slice a2 n2 c2, .slice a3 n3 c3]
      exact ⟨_, _, _, g1, g2, g3, rfl, ⟨(t1.later hA3).keptG hg (fun _ => by simp; omega), (t2.later hA3).keptG hg (fun _ => by simp; omega), (t3.later hA3).keptG hg (fun _ => by simp; omega)⟩, ⟨by omega, by omega, by omega⟩, hne⟩
    clear hsi hb3 hA3 HB2 HRS hsl
    cases b1
    · go_wp2_with (first | (refine wp_storeSl rfl _ _ rfl w.heap.size zHd zHd 0 0 _ _ _ _ _ _ HB3.out.2.1 rfl rfl rfl rfl rfl ?_; intro hst) | fail)
      exact ret_sl2 2 3 w.heap.size zHd 0 _ _ _ _ rfl rfl rfl rfl hst (HFN.out _ rfl (below_setRL HB3.out.1 (Nat.le_refl _) HB3.out.1.size _))
    · cases b2
      · go_wp2_with (first | (refine wp_storeSl rfl _ _ rfl w.heap.size zHd zHd 0 0 _ _ _ _ _ _ HB3.out.2.1 rfl rfl rfl rfl rfl ?_; intro hst) | fail)
        exact ret_sl2 2 3 w.heap.size zHd 0 _ _ _ _ rfl rfl rfl rfl hst (HFN.out _ rfl (below_setRL HB3.out.1 (Nat.le_refl _) HB3.out.1.size _))
      · have z0 := HB3.out.2.2.1.c0
        have z1 := HB3.out.2.2.1.c1
        have z2 := HB3.out.2.2.1.c2
        have z3 := HB3.out.2.2.1.c3
        have y0 := HB3.out.2.2.2.c0
        have y1 := HB3.out.2.2.2.c1
        have y2 := HB3.out.2.2.2.c2
        have y3 := HB3.out.2.2.2.c3
        simp only at z0 z1 z2 z3
        go_wp2_with (first | (refine wp_storeSl rfl _ _ rfl w.heap.size zHd ⟨h, e, r, p⟩ 0 A _ _ _ _ _ _ HB3.out.2.1 rfl rfl rfl rfl rfl ?_; intro hst) | fail)
        exact ret_sl2 2 3 w.heap.size ⟨h, e, r, p⟩ A _ _ _ _ rfl rfl rfl rfl hst (HFY.out _ _ rfl HSI.out (below_setRL HB3.out.1 (Nat.le_refl _) HB3.out.1.size _))

end Go.Proofs.Ytfojmagcoipbnaa
/-
  What the laws' own helpers do with seals: measured, taken over, compared, marked, held.
-/
namespace Go.Proofs.Ytfojmagcoipbnaa
open Go.RowKit Go.BigFrame Go.Sort
set_option linter.unusedVariables false
set_option linter.unusedSimpArgs false

section
variable {T : Nat} {W : World} {g : Nat} {x : Hd} {a : Int} {v1 v2 v3 : Value}
/-- its head stored anew -/
theorem SlB.putH (h : SlB T W g x a v1 v2 v3) (y : Hd) : SlB T ((((W.setCell ⟨g, 0, none⟩ (.int .i64 y.h)).setCell ⟨g, 1, none⟩ (.int .i64 y.e)).setCell ⟨g, 2, none⟩ (.string y.r)).setCell ⟨g, 3, none⟩ (.string y.p)) g y a v1 v2 v3 :=
  heap_setCell_same _ g 3 _ _ _ (heap_setCell_same _ g 2 _ _ _ (heap_setCell_same _ g 1 _ _ _ (heap_setCell_same W g 0 _ _ _ h)))
/-- its signature stored anew -/
theorem SlB.putS (h : SlB T W g x a v1 v2 v3) (y : Int) (u1 u2 u3 : Value) : SlB T ((((W.setCell ⟨g, 4, none⟩ (.int .i64 y)).setCell ⟨g, 5, none⟩ u1).setCell ⟨g, 6, none⟩ u2).setCell ⟨g, 7, none⟩ u3) g x y u1 u2 u3 :=
  heap_setCell_same _ g 7 _ _ _ (heap_setCell_same _ g 6 _ _ _ (heap_setCell_same _ g 5 _ _ _ (heap_setCell_same W g 4 _ _ _ h)))
end
theorem grown4 (W : World) (g i j k l : Nat) (u0 u1 u2 u3 : Value) : W.grownBy ((((W.setCell ⟨g, i, none⟩ u0).setCell ⟨g, j, none⟩ u1).setCell ⟨g, k, none⟩ u2).setCell ⟨g, l, none⟩ u3) (some g) :=
  (((grown_setC W g i u0).trans (grown_setC _ g j u1)).trans (grown_setC _ g k u2)).trans (grown_setC _ g l u3)

set_option maxRecDepth 100000 in
set_option maxHeartbeats 1000000 in
theorem szSeal_row (x : Hd) (a : Int) (a1 a2 a3 : Option Addr) (n1 n2 n3 k1 k2 k3 : Nat) (z1 z2 z3 : List ByteArray) (w : World) (hr : x.r.size ≤ 9223372036854775807) (hp : x.p.size ≤ 9223372036854775807) (h1 : IsRowS w a1 n1 k1 z1) (h2 : IsRowS w a2 n2 k2 z2) (h3 : IsRowS w a3 n3 k3 z3) :
    Calls Try.prog 58 #[.agg #[.int .i64 x.h, .int .i64 x.e, .string x.r, .string x.p, .int .i64 a, .slice a1 n1 k1, .slice a2 n2 k2, .slice a3 n3 k3], .int .i64 1048576] w fun e w' => ∃ A : Int, e = .returned (.int .i64 A) ∧ Below w.heap.size w w' ∧ (0 ≤ A → (x.r.size ≤ 1048576 ∧ x.p.size ≤ 1048576) ∧ n1 ≤ 1048576 ∧ n2 ≤ 1048576 ∧ n3 ≤ 1048576) := by
  have HX : Hid (Below w.heap.size w (w.alloc (.cells #[.int .i64 x.h, .int .i64 x.e, .string x.r, .string x.p, .int .i64 a, .slice a1 n1 k1, .slice a2 n2 k2, .slice a3 n3 k3] 52)) ∧ SlB 52 (w.alloc (.cells #[.int .i64 x.h, .int .i64 x.e, .string x.r, .string x.p, .int .i64 a, .slice a1 n1 k1, .slice a2 n2 k2, .slice a3 n3 k3] 52)) w.heap.size x a (.slice a1 n1 k1) (.slice a2 n2 k2) (.slice a3 n3 k3)) := ⟨(Below.refl _ _).alloc (Nat.le_refl _) _, SlB.new _ _ _ _ _ _ _⟩
  have HH : Hid (∀ W, Calls Try.prog 95 #[.agg #[.int .i64 x.h, .int .i64 x.e, .string x.r, .string x.p], .int .i64 1048576] W fun e w' => ∃ A : Int, e = .returned (.int .i64 A) ∧ Below W.heap.size W w' ∧ A ≤ 1048576 ∧ (0 ≤ A → x.r.size ≤ 1048576 ∧ x.p.size ≤ 1048576)) := fun W => szHead_any x 1048576 W (by omega) (by omega) hr hp
  have HS : Hid (∀ W y, Below w.heap.size w W → 0 ≤ y → y ≤ 1048576 → Calls Try.prog 96 #[.agg #[.int .i64 a, .slice a1 n1 k1, .slice a2 n2 k2, .slice a3 n3 k3], .int .i64 y] W fun e w' => ∃ A : Int, e = .returned (.int .i64 A) ∧ Below W.heap.size W w' ∧ (0 ≤ A → n1 ≤ 1048576 ∧ n2 ≤ 1048576 ∧ n3 ≤ 1048576)) := fun W y hW h0 hy => szSig_at a a1 a2 a3 n1 n2 n3 k1 k2 k3 z1 z2 z3 y W h0 hy (h1.later hW) (h2.later hW) (h3.later hW)
  clear h1 h2 h3 hr hp
  obtain ⟨h, e, r, p⟩ := x
  simp only at HX HH ⊢
  go_enter Try.func58, Try.ntmps58
  go_wp2_with fail
  refine (HH.out _).mono ?_
  rintro e1 w1 ⟨A, rfl, hb1, hA1, hA2⟩
  have HX1 : Hid (Below w.heap.size w w1 ∧ SlB 52 w1 w.heap.size ⟨h, e, r, p⟩ a (.slice a1 n1 k1) (.slice a2 n2 k2) (.slice a3 n3 k3)) := ⟨HX.out.1.trans (hb1.mono HX.out.1.size), HX.out.2.later hb1⟩
  have HA2 : Hid (0 ≤ A → r.size ≤ 1048576 ∧ p.size ≤ 1048576) := hA2
  clear hb1 HX HH hA2
  by_cases hneg : A < 0
  · clear HS HA2
    go_wp2
    go_ret
    exact ⟨-1, rfl, HX1.out.1, fun h => by omega⟩
  · obtain ⟨q0, q1, q2, q3, q4, q5, q6, q7⟩ := HX1.out.2.cells
    clear q0 q1 q2 q3
    go_wp2_with fail
    refine (HS.out _ A HX1.out.1 (by omega) hA1).mono ?_
    rintro e2 w2 ⟨B, rfl, hb2, hB⟩
    have HB2 : Hid (Below w.heap.size w w2) := HX1.out.1.trans (hb2.mono HX1.out.1.size)
    have HB3 : Hid (0 ≤ B → n1 ≤ 1048576 ∧ n2 ≤ 1048576 ∧ n3 ≤ 1048576) := hB
    clear hb2 HX1 q4 q5 q6 q7 hB HS
    by_cases hneg2 : B < 0
    · go_wp2
      go_ret
      exact ⟨-1, rfl, HB2.out, fun h => by omega⟩
    · go_wp2
      go_ret
      exact ⟨B, rfl, HB2.out, fun h => ⟨HA2.out (by omega), HB3.out h⟩⟩

set_option maxRecDepth 100000 in
set_option maxHeartbeats 1000000 in
theorem eqSeal_yes (x : Hd) (a : Int) (v1 v2 v3 u1 u2 u3 : Value) (g1 o1 g2 o2 g3 o3 p1 q1 p2 q2 p3 q3 : Nat) (o s d : List ByteArray) (w : World) (h1 : SS w v1 g1 o1 o) (h2 : SS w v2 g2 o2 s) (h3 : SS w v3 g3 o3 d) (k1 : SS w u1 p1 q1 o) (k2 : SS w u2 p2 q2 s) (k3 : SS w u3 p3 q3 d) :
    Calls Try.prog 67 #[.agg #[.int .i64 x.h, .int .i64 x.e, .string x.r, .string x.p, .int .i64 a, v1, v2, v3], .agg #[.int .i64 x.h, .int .i64 x.e, .string x.r, .string x.p, .int .i64 a, u1, u2, u3]] w fun e w' => e = .returned (.bool true) ∧ Below w.heap.size w w' := by
  have HH : Hid (∀ W, Calls Try.prog 106 #[.agg #[.int .i64 x.h, .int .i64 x.e, .string x.r, .string x.p], .agg #[.int .i64 x.h, .int .i64 x.e, .string x.r, .string x.p]] W fun e w' => e = .returned (.bool true) ∧ Below W.heap.size W w') := fun W => eqHead_yes x W
  have HS : Hid (∀ W, Below w.heap.size w W → Calls Try.prog 107 #[.agg #[.int .i64 a, v1, v2, v3], .agg #[.int .i64 a, u1, u2, u3]] W fun e w' => e = .returned (.bool true) ∧ Below W.heap.size W w') := fun W hW => eqSig_yes a v1 v2 v3 u1 u2 u3 g1 o1 g2 o2 g3 o3 p1 q1 p2 q2 p3 q3 o s d W (h1.below hW h1.lt) (h2.below hW h2.lt) (h3.below hW h3.lt) (k1.below hW k1.lt) (k2.below hW k2.lt) (k3.below hW k3.lt)
  obtain ⟨b1, c1, rfl, x1, y1⟩ := h1
  obtain ⟨b2, c2, rfl, x2, y2⟩ := h2
  obtain ⟨b3, c3, rfl, x3, y3⟩ := h3
  obtain ⟨b4, c4, rfl, x4, y4⟩ := k1
  obtain ⟨b5, c5, rfl, x5, y5⟩ := k2
  obtain ⟨b6, c6, rfl, x6, y6⟩ := k3
  clear x1 x2 x3 x4 x5 x6 y1 y2 y3 y4 y5 y6
  generalize o.length = n1 at *
  generalize s.length = n2 at *
  generalize d.length = n3 at *
  obtain ⟨h, e, r, p⟩ := x
  simp only at HH ⊢
  have HX : Hid (Below w.heap.size w ((w.alloc (.cells #[.int .i64 h, .int .i64 e, .string r, .string p, .int .i64 a, .slice b1 n1 c1, .slice b2 n2 c2, .slice b3 n3 c3] 61)).alloc (.cells #[.int .i64 h, .int .i64 e, .string r, .string p, .int .i64 a, .slice b4 n1 c4, .slice b5 n2 c5, .slice b6 n3 c6] 61)) ∧ SlB 61 ((w.alloc (.cells #[.int .i64 h, .int .i64 e, .string r, .string p, .int .i64 a, .slice b1 n1 c1, .slice b2 n2 c2, .slice b3 n3 c3] 61)).alloc (.cells #[.int .i64 h, .int .i64 e, .string r, .string p, .int .i64 a, .slice b4 n1 c4, .slice b5 n2 c5, .slice b6 n3 c6] 61)) w.heap.size ⟨h, e, r, p⟩ a (.slice b1 n1 c1) (.slice b2 n2 c2) (.slice b3 n3 c3) ∧ SlB 61 ((w.alloc (.cells #[.int .i64 h, .int .i64 e, .string r, .string p, .int .i64 a, .slice b1 n1 c1, .slice b2 n2 c2, .slice b3 n3 c3] 61)).alloc (.cells #[.int .i64 h, .int .i64 e, .string r, .string p, .int .i64 a, .slice b4 n1 c4, .slice b5 n2 c5, .slice b6 n3 c6] 61)) (w.heap.size + 1) ⟨h, e, r, p⟩ a (.slice b4 n1 c4) (.slice b5 n2 c5) (.slice b6 n3 c6)) := by
    refine ⟨((Below.refl _ _).alloc (Nat.le_refl _) _).alloc (by simp) _, (SlB.new _ _ ⟨h, e, r, p⟩ _ _ _ _).later ((Below.refl _ _).alloc (Nat.le_refl _) _), ?_⟩
    exact alloc_fst _ _ (by simp)
  go_enter Try.func67, Try.ntmps67
  go_wp2_with fail
  refine (HH.out _).mono ?_
  rintro e1 w1 ⟨rfl, hb1⟩
  have HB1 : Hid (Below w.heap.size w w1) := HX.out.1.trans (hb1.mono HX.out.1.size)
  obtain ⟨z0, z1, z2, z3, z4, z5, z6, z7⟩ := (HX.out.2.1.later hb1).cells
  obtain ⟨y0, y1, y2, y3, y4, y5, y6, y7⟩ := (HX.out.2.2.later hb1).cells
  clear z0 z1 z2 z3 y0 y1 y2 y3 HX hb1 HH
  go_wp2_with fail
  refine (HS.out _ HB1.out).mono ?_
  rintro e2 w2 ⟨rfl, hb2⟩
  have HB2 : Hid (Below w.heap.size w w2) := HB1.out.trans (hb2.mono HB1.out.size)
  clear z4 z5 z6 z7 y4 y5 y6 y7 HB1 hb2 HS
  go_wp2
  go_ret
  exact ⟨rfl, HB2.out⟩

set_option maxRecDepth 100000 in
set_option maxHeartbeats 1000000 in
theorem toSeal_any (x : Hd) (a : Int) (vo vs vd : Value) (g1 o1 g2 o2 g3 o3 : Nat) (o s d : List ByteArray) (w : World) (ho : SS w vo g1 o1 o) (hs : SS w vs g2 o2 s) (hd : SS w vd g3 o3 d) :
    Calls Try.prog 62 #[.agg #[.int .i64 x.h, .int .i64 x.e, .string x.r, .string x.p, .int .i64 a, vo, vs, vd]] w fun e w' => ∃ v, e = .returned v ∧ SealIn w' w.heap.size v x a o s d ∧ Below w.heap.size w w' := by
  have HTH : Hid (∀ W, Calls Try.prog 100 #[.agg #[.int .i64 x.h, .int .i64 x.e, .string x.r, .string x.p]] W fun e w' => e = .returned (.agg #[.int .i64 x.h, .int .i64 x.e, .string x.r, .string x.p]) ∧ Below W.heap.size W w') := fun W => toHead_any x W
  have HTS : Hid (∀ W, Below w.heap.size w W → Calls Try.prog 101 #[.agg #[.int .i64 a, vo, vs, vd]] W fun e w' => ∃ b1 m1 k1 b2 m2 k2 b3 m3 k3 p1 p2 p3, e = .returned (.agg #[.int .i64 a, .slice b1 m1 k1, .slice b2 m2 k2, .slice b3 m3 k3]) ∧ (TS w' (.slice b1 m1 k1) p1 o ∧ TS w' (.slice b2 m2 k2) p2 s ∧ TS w' (.slice b3 m3 k3) p3 d) ∧ (W.heap.size ≤ p1 ∧ W.heap.size ≤ p2 ∧ W.heap.size ≤ p3) ∧ (p1 ≠ p2 ∧ p1 ≠ p3 ∧ p2 ≠ p3) ∧ Below W.heap.size W w') := fun W hW => by
    refine (toSig_any a vo vs vd g1 o1 g2 o2 g3 o3 o s d W (ho.below hW ho.lt) (hs.below hW hs.lt) (hd.below hW hd.lt)).mono ?_
    rintro e w' ⟨v, rfl, ⟨v1, v2, v3, p1, p2, p3, rfl, ⟨t1, t2, t3⟩, hl, hn⟩, hb⟩
    obtain ⟨a1, c1, rfl, _⟩ := id t1
    obtain ⟨a2, c2, rfl, _⟩ := id t2
    obtain ⟨a3, c3, rfl, _⟩ := id t3
    exact ⟨a1, _, c1, a2, _, c2, a3, _, c3, p1, p2, p3, rfl, ⟨t1, t2, t3⟩, hl, hn, hb⟩
  obtain ⟨ao, co, rfl, lo, x1⟩ := ho
  obtain ⟨as2, cs2, rfl, ls, x2⟩ := hs
  obtain ⟨ad, cd, rfl, ld, x3⟩ := hd
  clear x1 x2 x3
  generalize o.length = n1 at *
  generalize s.length = n2 at *
  generalize d.length = n3 at *
  obtain ⟨h, e, r, p⟩ := x
  simp only at HTH ⊢
  have HX : Hid (Below w.heap.size w (((w.alloc (.cells #[.int .i64 h, .int .i64 e, .string r, .string p, .int .i64 a, .slice ao n1 co, .slice as2 n2 cs2, .slice ad n3 cd] 52)).alloc (.cells zSl 61)).alloc (.cells zSl 61)) ∧ SlB 52 (((w.alloc (.cells #[.int .i64 h, .int .i64 e, .string r, .string p, .int .i64 a, .slice ao n1 co, .slice as2 n2 cs2, .slice ad n3 cd] 52)).alloc (.cells zSl 61)).alloc (.cells zSl 61)) w.heap.size ⟨h, e, r, p⟩ a (.slice ao n1 co) (.slice as2 n2 cs2) (.slice ad n3 cd) ∧ SlB 61 (((w.alloc (.cells #[.int .i64 h, .int .i64 e, .string r, .string p, .int .i64 a, .slice ao n1 co, .slice as2 n2 cs2, .slice ad n3 cd] 52)).alloc (.cells zSl 61)).alloc (.cells zSl 61)) (w.heap.size + 1) zHd 0 (.slice none 0 0) (.slice none 0 0) (.slice none 0 0) ∧ SlB 61 (((w.alloc (.cells #[.int .i64 h, .int .i64 e, .string r, .string p, .int .i64 a, .slice ao n1 co, .slice as2 n2 cs2, .slice ad n3 cd] 52)).alloc (.cells zSl 61)).alloc (.cells zSl 61)) (w.heap.size + 1 + 1) zHd 0 (.slice none 0 0) (.slice none 0 0) (.slice none 0 0) ∧ (((w.alloc (.cells #[.int .i64 h, .int .i64 e, .string r, .string p, .int .i64 a, .slice ao n1 co, .slice as2 n2 cs2, .slice ad n3 cd] 52)).alloc (.cells zSl 61)).alloc (.cells zSl 61)).heap.size = w.heap.size + 1 + 1 + 1) := by
    have hz : ∀ W : World, Below W.heap.size W (W.alloc (.cells zSl 61)) := fun W => (Below.refl _ _).alloc (Nat.le_refl _) _
    refine ⟨(((Below.refl _ _).alloc (Nat.le_refl _) _).alloc (by simp) _).alloc (by simp; omega) _, ((SlB.new _ _ ⟨h, e, r, p⟩ _ _ _ _).later (hz _)).later (hz _), ?_, ?_, by simp⟩
    · have h1 : SlB 61 ((w.alloc (.cells #[.int .i64 h, .int .i64 e, .string r, .string p, .int .i64 a, .slice ao n1 co, .slice as2 n2 cs2, .slice ad n3 cd] 52)).alloc (.cells zSl 61)) (w.heap.size + 1) zHd 0 (.slice none 0 0) (.slice none 0 0) (.slice none 0 0) := alloc_fst _ _ (by simp)
      exact h1.later (hz _)
    · exact alloc_fst _ _ (by simp)
  go_enter Try.func62, Try.ntmps62
  go_wp2_with fail
  refine (HTH.out _).mono ?_
  rintro e1 w1 ⟨rfl, hb1⟩
  have HX1 : Hid (Below w.heap.size w w1 ∧ SlB 52 w1 w.heap.size ⟨h, e, r, p⟩ a (.slice ao n1 co) (.slice as2 n2 cs2) (.slice ad n3 cd) ∧ SlB 61 w1 (w.heap.size + 1) zHd 0 (.slice none 0 0) (.slice none 0 0) (.slice none 0 0) ∧ SlB 61 w1 (w.heap.size + 1 + 1) zHd 0 (.slice none 0 0) (.slice none 0 0) (.slice none 0 0) ∧ w.heap.size + 1 + 1 + 1 ≤ w1.heap.size) := ⟨HX.out.1.trans (hb1.mono HX.out.1.size), HX.out.2.1.later hb1, HX.out.2.2.1.later hb1, HX.out.2.2.2.1.later hb1, by rw [← HX.out.2.2.2.2]; exact hb1.size⟩
  obtain ⟨z0, z1, z2, z3, z4, z5, z6, z7⟩ := HX1.out.2.2.2.1.cells
  have f0 := HX1.out.2.2.2.1.fz 0
  have f1 := HX1.out.2.2.2.1.fz 1
  have f2 := HX1.out.2.2.2.1.fz 2
  have f3 := HX1.out.2.2.2.1.fz 3
  obtain ⟨q0, q1, q2, q3, q4, q5, q6, q7⟩ := HX1.out.2.1.cells
  have hne0 : w.heap.size ≠ w.heap.size + 1 + 1 := by omega
  have HX2 : Hid (Below w.heap.size w ((((w1.setCell ⟨w.heap.size + 1 + 1, 0, none⟩ (.int .i64 h)).setCell ⟨w.heap.size + 1 + 1, 1, none⟩ (.int .i64 e)).setCell ⟨w.heap.size + 1 + 1, 2, none⟩ (.string r)).setCell ⟨w.heap.size + 1 + 1, 3, none⟩ (.string p)) ∧ SlB 61 ((((w1.setCell ⟨w.heap.size + 1 + 1, 0, none⟩ (.int .i64 h)).setCell ⟨w.heap.size + 1 + 1, 1, none⟩ (.int .i64 e)).setCell ⟨w.heap.size + 1 + 1, 2, none⟩ (.string r)).setCell ⟨w.heap.size + 1 + 1, 3, none⟩ (.string p)) (w.heap.size + 1) zHd 0 (.slice none 0 0) (.slice none 0 0) (.slice none 0 0) ∧ SlB 61 ((((w1.setCell ⟨w.heap.size + 1 + 1, 0, none⟩ (.int .i64 h)).setCell ⟨w.heap.size + 1 + 1, 1, none⟩ (.int .i64 e)).setCell ⟨w.heap.size + 1 + 1, 2, none⟩ (.string r)).setCell ⟨w.heap.size + 1 + 1, 3, none⟩ (.string p)) (w.heap.size + 1 + 1) ⟨h, e, r, p⟩ 0 (.slice none 0 0) (.slice none 0 0) (.slice none 0 0) ∧ w.heap.size + 1 + 1 + 1 ≤ ((((w1.setCell ⟨w.heap.size + 1 + 1, 0, none⟩ (.int .i64 h)).setCell ⟨w.heap.size + 1 + 1, 1, none⟩ (.int .i64 e)).setCell ⟨w.heap.size + 1 + 1, 2, none⟩ (.string r)).setCell ⟨w.heap.size + 1 + 1, 3, none⟩ (.string p)).heap.size) := by
    have hg := grown4 w1 (w.heap.size + 1 + 1) 0 1 2 3 (.int .i64 h) (.int .i64 e) (.string r) (.string p)
    exact ⟨HX1.out.1.grown hg HX1.out.1.size (fun k hk => by simp at hk; omega), HX1.out.2.2.1.grown hg (by simp), HX1.out.2.2.2.1.putH ⟨h, e, r, p⟩, Nat.le_trans HX1.out.2.2.2.2 hg.size⟩
  clear hb1 HX HTH z4 z5 z6 z7 q0 q1 q2 q3 HX1
  go_wp2_with fail
  refine (HTS.out _ HX2.out.1).mono ?_
  rintro e2 w2 ⟨b1, m1, k1, b2, m2, k2, b3, m3, k3, p1, p2, p3, rfl, ⟨t1, t2, t3⟩, ⟨l1, l2, l3⟩, hpn, hb2⟩
  have hp : w.heap.size + 1 + 1 < p1 ∧ w.heap.size + 1 + 1 < p2 ∧ w.heap.size + 1 + 1 < p3 := by have := HX2.out.2.2.2; omega
  have hX3 := HX2.out.2.2.1.later hb2
  obtain ⟨z0, z1, z2, z3, z4, z5, z6, z7⟩ := hX3.cells
  have f4 := hX3.fz 4
  have f5 := hX3.fz 5
  have f6 := hX3.fz 6
  have f7 := hX3.fz 7
  have HX4 : Hid (Below w.heap.size w ((((w2.setCell ⟨w.heap.size + 1 + 1, 4, none⟩ (.int .i64 a)).setCell ⟨w.heap.size + 1 + 1, 5, none⟩ (.slice b1 m1 k1)).setCell ⟨w.heap.size + 1 + 1, 6, none⟩ (.slice b2 m2 k2)).setCell ⟨w.heap.size + 1 + 1, 7, none⟩ (.slice b3 m3 k3)) ∧ SlB 61 ((((w2.setCell ⟨w.heap.size + 1 + 1, 4, none⟩ (.int .i64 a)).setCell ⟨w.heap.size + 1 + 1, 5, none⟩ (.slice b1 m1 k1)).setCell ⟨w.heap.size + 1 + 1, 6, none⟩ (.slice b2 m2 k2)).setCell ⟨w.heap.size + 1 + 1, 7, none⟩ (.slice b3 m3 k3)) (w.heap.size + 1) zHd 0 (.slice none 0 0) (.slice none 0 0) (.slice none 0 0) ∧ SlB 61 ((((w2.setCell ⟨w.heap.size + 1 + 1, 4, none⟩ (.int .i64 a)).setCell ⟨w.heap.size + 1 + 1, 5, none⟩ (.slice b1 m1 k1)).setCell ⟨w.heap.size + 1 + 1, 6, none⟩ (.slice b2 m2 k2)).setCell ⟨w.heap.size + 1 + 1, 7, none⟩ (.slice b3 m3 k3)) (w.heap.size + 1 + 1) ⟨h, e, r, p⟩ a (.slice b1 m1 k1) (.slice b2 m2 k2) (.slice b3 m3 k3) ∧ (TS ((((w2.setCell ⟨w.heap.size + 1 + 1, 4, none⟩ (.int .i64 a)).setCell ⟨w.heap.size + 1 + 1, 5, none⟩ (.slice b1 m1 k1)).setCell ⟨w.heap.size + 1 + 1, 6, none⟩ (.slice b2 m2 k2)).setCell ⟨w.heap.size + 1 + 1, 7, none⟩ (.slice b3 m3 k3)) (.slice b1 m1 k1) p1 o ∧ TS ((((w2.setCell ⟨w.heap.size + 1 + 1, 4, none⟩ (.int .i64 a)).setCell ⟨w.heap.size + 1 + 1, 5, none⟩ (.slice b1 m1 k1)).setCell ⟨w.heap.size + 1 + 1, 6, none⟩ (.slice b2 m2 k2)).setCell ⟨w.heap.size + 1 + 1, 7, none⟩ (.slice b3 m3 k3)) (.slice b2 m2 k2) p2 s ∧ TS ((((w2.setCell ⟨w.heap.size + 1 + 1, 4, none⟩ (.int .i64 a)).setCell ⟨w.heap.size + 1 + 1, 5, none⟩ (.slice b1 m1 k1)).setCell ⟨w.heap.size + 1 + 1, 6, none⟩ (.slice b2 m2 k2)).setCell ⟨w.heap.size + 1 + 1, 7, none⟩ (.slice b3 m3 k3)) (.slice b3 m3 k3) p3 d)) := by
    have hg := grown4 w2 (w.heap.size + 1 + 1) 4 5 6 7 (.int .i64 a) (.slice b1 m1 k1) (.slice b2 m2 k2) (.slice b3 m3 k3)
    have k1x := HX2.out.1.trans (hb2.mono HX2.out.1.size)
    exact ⟨k1x.grown hg k1x.size (fun k hk => by simp at hk; omega), (HX2.out.2.1.later hb2).grown hg (by simp), hX3.putS a _ _ _, t1.keptG hg (fun _ => by simp; omega), t2.keptG hg (fun _ => by simp; omega), t3.keptG hg (fun _ => by simp; omega)⟩
  clear hX3 t1 t2 t3 hb2 HX2 l1 l2 l3 z0 z1 z2 z3 q4 q5 q6 q7 f0 f1 f2 f3 HTS
  go_upto_region 4 with fail
  generalize ((((w2.setCell ⟨w.heap.size + 1 + 1, 4, none⟩ (.int .i64 a)).setCell ⟨w.heap.size + 1 + 1, 5, none⟩ (.slice b1 m1 k1)).setCell ⟨w.heap.size + 1 + 1, 6, none⟩ (.slice b2 m2 k2)).setCell ⟨w.heap.size + 1 + 1, 7, none⟩ (.slice b3 m3 k3)) = W4 at *
  clear z4 z5 z6 z7 f4 f5 f6 f7
  go_wp2_with (first | (refine wp_loadSl rfl _ rfl (w.heap.size + 1 + 1) ⟨h, e, r, p⟩ a _ _ _ rfl HX4.out.2.2.1 ?_) | (refine wp_storeSl rfl _ _ rfl (w.heap.size + 1) zHd ⟨h, e, r, p⟩ 0 a _ _ _ _ _ _ HX4.out.2.1 rfl rfl rfl rfl rfl ?_; intro hst) | fail)
  refine ret_sl1 2 (w.heap.size + 1) ⟨h, e, r, p⟩ a _ _ _ rfl rfl rfl hst ?_
  have hg := grown_setRow W4 (w.heap.size + 1) #[.int .i64 h, .int .i64 e, .string r, .string p, .int .i64 a, .slice b1 m1 k1, .slice b2 m2 k2, .slice b3 m3 k3]
  obtain ⟨t1, t2, t3⟩ := HX4.out.2.2.2
  exact ⟨_, rfl, ⟨_, _, _, rfl, ⟨_, _, _, p1, p2, p3, rfl, ⟨t1.keptG hg (fun _ => by simp; omega), t2.keptG hg (fun _ => by simp; omega), t3.keptG hg (fun _ => by simp; omega)⟩, ⟨by omega, by omega, by omega⟩, hpn⟩⟩, below_setRL HX4.out.1 (by omega) HX4.out.1.size _⟩

set_option maxRecDepth 100000 in
set_option maxHeartbeats 1000000 in
theorem markSeal_any (x : Hd) (a : Int) (v1 v2 v3 : Value) (g1 g2 g3 : Nat) (o s d : List ByteArray) (w : World) (h1 : TS w v1 g1 o) (h2 : TS w v2 g2 s) (h3 : TS w v3 g3 d) (d12 : g1 ≠ g2) (d13 : g1 ≠ g3) (d23 : g2 ≠ g3) :
    Calls Try.prog 77 #[.agg #[.int .i64 x.h, .int .i64 x.e, .string x.r, .string x.p, .int .i64 a, v1, v2, v3], .int .i64 1] w fun e w' => e = .returned (.int .i64 (1 + o.length + s.length + d.length : Nat)) ∧ TS w' v1 g1 (marks 1 o.length) ∧ TS w' v2 g2 (marks (1 + o.length) s.length) ∧ TS w' v3 g3 (marks (1 + o.length + s.length) d.length) ∧ Grown3 w w' (rowOf g1 o) (rowOf g2 s) (rowOf g3 d) := by
  have hB : Below w.heap.size w (w.alloc (.cells #[.int .i64 x.h, .int .i64 x.e, .string x.r, .string x.p, .int .i64 a, v1, v2, v3] 61)) := (Below.refl _ _).alloc (Nat.le_refl _) _
  have hc := markSig_any a v1 v2 v3 g1 g2 g3 o s d _ (h1.later hB) (h2.later hB) (h3.later hB) d12 d13 d23
  have HB : Hid (Below w.heap.size w (w.alloc (.cells #[.int .i64 x.h, .int .i64 x.e, .string x.r, .string x.p, .int .i64 a, v1, v2, v3] 61))) := hB
  obtain ⟨a1, c1, rfl, _, x1⟩ := h1
  obtain ⟨a2, c2, rfl, _, x2⟩ := h2
  obtain ⟨a3, c3, rfl, _, x3⟩ := h3
  clear hB x1 x2 x3
  generalize (1 + o.length + s.length + d.length : Nat) = N at *
  go_enter Try.func77, Try.ntmps77
  go_wp2_with fail
  refine hc.mono ?_
  rintro e1 w1 ⟨rfl, m1, m2, m3, wa, wb, ha, hb, hcc⟩
  go_wp2
  go_ret
  exact ⟨rfl, m1, m2, m3, wa, wb, (grown_below HB.out).trans ha, hb, hcc⟩

set_option maxRecDepth 100000 in
set_option maxHeartbeats 1000000 in
theorem heldSeal_any (x : Hd) (a : Int) (v1 v2 v3 : Value) (g1 g2 g3 n1 n2 n3 : Nat) (w : World) (h1 : TS w v1 g1 (marks 1 n1)) (h2 : TS w v2 g2 (marks (1 + n1) n2)) (h3 : TS w v3 g3 (marks (1 + n1 + n2) n3)) :
    Calls Try.prog 79 #[.agg #[.int .i64 x.h, .int .i64 x.e, .string x.r, .string x.p, .int .i64 a, v1, v2, v3], .int .i64 1] w fun e w' => e = .returned (.int .i64 (1 + n1 + n2 + n3 : Nat)) ∧ Below w.heap.size w w' := by
  have hB : Below w.heap.size w (w.alloc (.cells #[.int .i64 x.h, .int .i64 x.e, .string x.r, .string x.p, .int .i64 a, v1, v2, v3] 61)) := (Below.refl _ _).alloc (Nat.le_refl _) _
  have hc := heldSig_any a v1 v2 v3 g1 g2 g3 n1 n2 n3 _ (h1.later hB) (h2.later hB) (h3.later hB)
  have HB : Hid (Below w.heap.size w (w.alloc (.cells #[.int .i64 x.h, .int .i64 x.e, .string x.r, .string x.p, .int .i64 a, v1, v2, v3] 61))) := hB
  obtain ⟨a1, c1, rfl, _, x1⟩ := h1
  obtain ⟨a2, c2, rfl, _, x2⟩ := h2
  obtain ⟨a3, c3, rfl, _, x3⟩ := h3
  rw [marks_len, marks_len, marks_len] at *
  clear hB x1 x2 x3
  obtain ⟨N, hN⟩ : ∃ N : Nat, 1 + n1 + n2 + n3 = N := ⟨_, rfl⟩
  rw [hN] at hc ⊢
  have hq : ¬ ((N : Int) < 0) := by omega
  clear hN
  go_enter Try.func79, Try.ntmps79
  go_wp2_with fail
  refine hc.mono ?_
  rintro e1 w1 ⟨rfl, hb1⟩
  go_wp2
  go_ret
  exact ⟨rfl, HB.out.trans (hb1.mono HB.out.size)⟩

theorem SealIn.out {w : World} {B : Nat} {v : Value} {x : Hd} {a : Int} {o s d : List ByteArray} (h : SealIn w B v x a o s d) : ∃ v1 v2 v3 g1 g2 g3, v = .agg #[.int .i64 x.h, .int .i64 x.e, .string x.r, .string x.p, .int .i64 a, v1, v2, v3] ∧ (TS w v1 g1 o ∧ TS w v2 g2 s ∧ TS w v3 g3 d) ∧ (B ≤ g1 ∧ B ≤ g2 ∧ B ≤ g3) ∧ (g1 ≠ g2 ∧ g1 ≠ g3 ∧ g2 ≠ g3) := by
  obtain ⟨v1, v2, v3, rfl, u1, u2, u3, g1, g2, g3, hv, ht, hB, hn⟩ := h
  simp at hv
  obtain ⟨rfl, rfl, rfl⟩ := hv
  exact ⟨v1, v2, v3, g1, g2, g3, rfl, ht, hB, hn⟩
/-- block p is a seal, and its lists lie so -/
def WSl (W : World) (p : Nat) (x : Hd) (a : Int) (v1 v2 v3 : Value) (g1 g2 g3 : Nat) (o s d : List ByteArray) : Prop := SlB 61 W p x a v1 v2 v3 ∧ TS W v1 g1 o ∧ TS W v2 g2 s ∧ TS W v3 g3 d
theorem WSl.later {W W' : World} {p : Nat} {x : Hd} {a : Int} {v1 v2 v3 : Value} {g1 g2 g3 : Nat} {o s d : List ByteArray} (h : WSl W p x a v1 v2 v3 g1 g2 g3 o s d) (hb : Below W.heap.size W W') : WSl W' p x a v1 v2 v3 g1 g2 g3 o s d :=
  ⟨h.1.later hb, h.2.1.later hb, h.2.2.1.later hb, h.2.2.2.later hb⟩
theorem WSl.alloc {W : World} {p : Nat} {x : Hd} {a : Int} {v1 v2 v3 : Value} {g1 g2 g3 : Nat} {o s d : List ByteArray} (h : WSl W p x a v1 v2 v3 g1 g2 g3 o s d) (y : Obj) : WSl (W.alloc y) p x a v1 v2 v3 g1 g2 g3 o s d := h.later ((Below.refl _ _).alloc (Nat.le_refl _) _)
theorem WSl.new (W : World) (x : Hd) (a : Int) (v1 v2 v3 : Value) (g1 g2 g3 : Nat) (o s d : List ByteArray) (h1 : TS W v1 g1 o) (h2 : TS W v2 g2 s) (h3 : TS W v3 g3 d) : WSl (W.alloc (.cells #[.int .i64 x.h, .int .i64 x.e, .string x.r, .string x.p, .int .i64 a, v1, v2, v3] 61)) W.heap.size x a v1 v2 v3 g1 g2 g3 o s d := by
  have hb : Below W.heap.size W (W.alloc (.cells #[.int .i64 x.h, .int .i64 x.e, .string x.r, .string x.p, .int .i64 a, v1, v2, v3] 61)) := (Below.refl _ _).alloc (Nat.le_refl _) _
  exact ⟨SlB.new _ _ _ _ _ _ _, h1.later hb, h2.later hb, h3.later hb⟩
theorem SlB.keptG3 {T : Nat} {w w' : World} {g : Nat} {r1 r2 r3 : Option Nat} {x : Hd} {a : Int} {v1 v2 v3 : Value} (h : SlB T w g x a v1 v2 v3) (hg : Grown3 w w' r1 r2 r3) (h1 : some g ≠ r1) (h2 : some g ≠ r2) (h3 : some g ≠ r3) : SlB T w' g x a v1 v2 v3 := by
  obtain ⟨wa, wb, ha, hb, hc⟩ := hg
  exact ((h.grown ha h1).grown hb h2).grown hc h3
section
variable {w : World} {ops : Array Oper} {rest : List Oper} {o : Oper} {a : Act} {Q : Exit → Act → World → Prop}
/-- a seal that a law was handed, loaded whole -/
theorem wp_loadSlL (hgd : o.guard = none) (p : Operand) (ho : o.op = .load 52 p) (g : Nat) (x : Hd) (y : Int) (v1 v2 v3 : Value) (hp : a.eval p = .pointer (some ⟨g, 0, none⟩)) (hA : SlB 52 w g x y v1 v2 v3)
    (h : wpList Try.prog ops Q rest (a.put o.dst (.agg #[.int .i64 x.h, .int .i64 x.e, .string x.r, .string x.p, .int .i64 y, v1, v2, v3])) w) : wpList Try.prog ops Q (o :: rest) a w := by
  refine wpList_plain hgd fun K hK => ?_
  have hr : (Instr.loadAt 52 (.pointer (some ⟨g, 0, none⟩))).run Try.prog w = .ok (.agg #[.int .i64 x.h, .int .i64 x.e, .string x.r, .string x.p, .int .i64 y, v1, v2, v3]) w := by
    simp only [Instr.loadAt, Instr.sureAddr, Sem.run_bind, Sem.run_pure, Result.andThen]
    exact run_loadVar_row (P := Try.prog) w g 52 52 _ (0, 0) _ hA Try.underlying52 rfl (by kernel_rfl)
  unfold Oper.wp
  simp [execOp, ho, hp, hr, Result.andThen]
  exact hK _ _ h
end

end Go.Proofs.Ytfojmagcoipbnaa
/-
  What the laws' own helpers do with stamps: taken over, compared.
-/
namespace Go.Proofs.Ytfojmagcoipbnaa
open Go.RowKit Go.BigFrame Go.Sort
set_option linter.unusedVariables false
set_option linter.unusedSimpArgs false

theorem sizeStm : (Try.prog.info? 100).map (·.size) = some 5 := by kernel_rfl
theorem ret_st {fn : Func} {Rp : Ending → World → Prop} {a : Act} {w : World} (c g : Nat) (v1 v2 v3 v4 v5 : Value) (hres : fn.results = #[.cell c 100]) (hd : a.defers = []) (hp : a.tmps.getD c undef = .pointer (some ⟨g, 0, none⟩)) (hA : Box 100 w g [v1, v2, v3, v4, v5]) (h : Rp (.returned (.agg #[v1, v2, v3, v4, v5])) w) : bodyPost Try.prog fn Rp .ret a w :=
  ret_rec c g 100 [v1, v2, v3, v4, v5] _ hres hd hp Try.underlying100 rfl sizeStm hA.range h
theorem load_st {w : World} {g : Nat} {v1 v2 v3 v4 v5 : Value} (hA : Box 100 w g [v1, v2, v3, v4, v5]) : (loadVar 100 ⟨g, 0, none⟩).run Try.prog w = .ok (.agg #[v1, v2, v3, v4, v5]) w :=
  run_loadVar_row (P := Try.prog) w g 100 100 _ (0, 0) _ hA Try.underlying100 rfl sizeStm
section
variable {w : World} {ops : Array Oper} {rest : List Oper} {o : Oper} {a : Act} {Q : Exit → Act → World → Prop}
theorem wp_loadSt (hgd : o.guard = none) (p : Operand) (ho : o.op = .load 100 p) (g : Nat) (v1 v2 v3 v4 v5 : Value) (hp : a.eval p = .pointer (some ⟨g, 0, none⟩)) (hA : Box 100 w g [v1, v2, v3, v4, v5])
    (h : wpList Try.prog ops Q rest (a.put o.dst (.agg #[v1, v2, v3, v4, v5])) w) : wpList Try.prog ops Q (o :: rest) a w := by
  refine wpList_plain hgd fun K hK => ?_
  have hr : (Instr.loadAt 100 (.pointer (some ⟨g, 0, none⟩))).run Try.prog w = .ok (.agg #[v1, v2, v3, v4, v5]) w := by
    simp only [Instr.loadAt, Instr.sureAddr, Sem.run_bind, Sem.run_pure, Result.andThen]
    exact load_st hA
  unfold Oper.wp
  simp [execOp, ho, hp, hr, Result.andThen]
  exact hK _ _ h
theorem wp_storeSt (hgd : o.guard = none) (p v : Operand) (ho : o.op = .store 100 p v) (g : Nat) (v1 v2 v3 v4 v5 u1 u2 u3 u4 u5 : Value) (hA : Box 100 w g [v1, v2, v3, v4, v5]) (hp : a.eval p = .pointer (some ⟨g, 0, none⟩)) (hv : a.eval v = .agg #[u1, u2, u3, u4, u5])
    (h1 : u1.oneCell' = true) (h2 : u2.oneCell' = true) (h3 : u3.oneCell' = true) (h4 : u4.oneCell' = true) (h5 : u5.oneCell' = true)
    (h : Box 100 (w.setRow g #[u1, u2, u3, u4, u5]) g [u1, u2, u3, u4, u5] → wpList Try.prog ops Q rest (a.put o.dst (.tuple #[])) (w.setRow g #[u1, u2, u3, u4, u5])) : wpList Try.prog ops Q (o :: rest) a w := by
  refine wpList_plain hgd fun K hK => ?_
  have hr : (Instr.storeAt 100 (.pointer (some ⟨g, 0, none⟩)) (.agg #[u1, u2, u3, u4, u5])).run Try.prog w = .ok () (w.setRow g #[u1, u2, u3, u4, u5]) := by
    simp only [Instr.storeAt, Instr.sureAddr, Sem.run_bind, Sem.run_pure, Result.andThen]
    refine run_storeVar_row w g 100 100 _ _ hA sizeStm rfl ?_
    simp [h1, h2, h3, h4, h5]
  unfold Oper.wp
  simp [execOp, ho, hp, hv, hr, Result.andThen]
  exact hK _ _ (h (setRow_heap w g _ _ _ _ hA))
end

/-- what a law makes of a stamp that it was handed: a stamp whose rows are new -/
def ToS1 (y : Stm) (w : World) (e : Ending) (w' : World) : Prop := ∃ b1 m1 k1 b2 m2 k2 b3 m3 k3, e = .returned (.agg #[.int .i64 y.b, .int .i64 y.a, .slice b1 m1 k1, .slice b2 m2 k2, .slice b3 m3 k3]) ∧ (∀ g, g < w.heap.size → SXn w' (.slice b1 m1 k1) y.o g ∧ SXn w' (.slice b2 m2 k2) y.s g ∧ SXn w' (.slice b3 m3 k3) y.d g) ∧ Below w.heap.size w w'

set_option maxRecDepth 100000 in
set_option maxHeartbeats 2000000 in
theorem toStamp_any (x : StV) (y : Stm) (w : World) (h : SgV w x y) :
    Calls Try.prog 102 #[.agg #[.int .i64 x.b, .int .i64 x.a, x.v1, x.v2, x.v3]] w (ToS1 y w) := by
  have HTS : Hid (∀ W, Below w.heap.size w W → Calls Try.prog 101 #[.agg #[.int .i64 x.a, x.v1, x.v2, x.v3]] W fun e w' => ∃ b1 m1 k1 b2 m2 k2 b3 m3 k3 p1 p2 p3, e = .returned (.agg #[.int .i64 x.a, .slice b1 m1 k1, .slice b2 m2 k2, .slice b3 m3 k3]) ∧ (TS w' (.slice b1 m1 k1) p1 y.o ∧ TS w' (.slice b2 m2 k2) p2 y.s ∧ TS w' (.slice b3 m3 k3) p3 y.d) ∧ (W.heap.size ≤ p1 ∧ W.heap.size ≤ p2 ∧ W.heap.size ≤ p3) ∧ Below W.heap.size W w') := fun W hW => by
    obtain ⟨_, _, ⟨g1, o1, s1⟩, ⟨g2, o2, s2⟩, ⟨g3, o3, s3⟩⟩ := h.later hW
    refine (toSig_any x.a x.v1 x.v2 x.v3 g1 o1 g2 o2 g3 o3 y.o y.s y.d W s1 s2 s3).mono ?_
    rintro e w' ⟨v, rfl, ⟨v1, v2, v3, p1, p2, p3, rfl, ⟨t1, t2, t3⟩, hl, hn⟩, hb⟩
    obtain ⟨a1, c1, rfl, _⟩ := id t1
    obtain ⟨a2, c2, rfl, _⟩ := id t2
    obtain ⟨a3, c3, rfl, _⟩ := id t3
    exact ⟨a1, _, c1, a2, _, c2, a3, _, c3, p1, p2, p3, rfl, ⟨t1, t2, t3⟩, hl, hb⟩
  obtain ⟨e1, e2, ⟨g1, o1, s1⟩, ⟨g2, o2, s2⟩, ⟨g3, o3, s3⟩⟩ := h
  obtain ⟨a1, c1, f1, r1⟩ := s1
  obtain ⟨a2, c2, f2, r2⟩ := s2
  obtain ⟨a3, c3, f3, r3⟩ := s3
  clear r1 r2 r3
  obtain ⟨xb, xa, v1, v2, v3⟩ := x
  simp only at e1 e2 f1 f2 f3 HTS ⊢
  subst e1
  subst e2
  subst f1
  subst f2
  subst f3
  obtain ⟨yb, ya, yo, ys, yd⟩ := y
  simp only at HTS ⊢
  generalize hn1 : yo.length = n1 at *
  generalize hn2 : ys.length = n2 at *
  generalize hn3 : yd.length = n3 at *
  obtain ⟨Post, hPost⟩ : ∃ P, ToS1 ⟨yb, ya, yo, ys, yd⟩ w = P := ⟨_, rfl⟩
  have HP : Hid (ToS1 ⟨yb, ya, yo, ys, yd⟩ w = Post) := hPost
  rw [hPost]
  clear hPost hn1 hn2 hn3
  have HX : Hid (∀ W, W = (((w.alloc (.cells #[.int .i64 yb, .int .i64 ya, .slice a1 n1 c1, .slice a2 n2 c2, .slice a3 n3 c3] 139)).alloc (.cells #[.int .i64 0, .int .i64 0, .slice none 0 0, .slice none 0 0, .slice none 0 0] 100)).alloc (.cells #[.int .i64 yb, .int .i64 0, .slice none 0 0, .slice none 0 0, .slice none 0 0] 100)) → Below w.heap.size w W ∧ Box 100 W (w.heap.size + 1) [.int .i64 0, .int .i64 0, .slice none 0 0, .slice none 0 0, .slice none 0 0] ∧ Box 100 W (w.heap.size + 1 + 1) [.int .i64 yb, .int .i64 0, .slice none 0 0, .slice none 0 0, .slice none 0 0] ∧ Box 139 W w.heap.size [.int .i64 yb, .int .i64 ya, .slice a1 n1 c1, .slice a2 n2 c2, .slice a3 n3 c3] ∧ w.heap.size + 3 ≤ W.heap.size) := fun W hW => by
    subst hW
    refine ⟨((below_alloc _ _).alloc (by simp) _).alloc (by simp; omega) _, ?_, alloc_fst _ _ (by simp), ((Box.new _ w _).later (below_alloc _ _)).later (below_alloc _ _), by simp⟩
    have h2 : Box 100 ((w.alloc (.cells #[.int .i64 yb, .int .i64 ya, .slice a1 n1 c1, .slice a2 n2 c2, .slice a3 n3 c3] 139)).alloc (.cells #[.int .i64 0, .int .i64 0, .slice none 0 0, .slice none 0 0, .slice none 0 0] 100)) (w.heap.size + 1) [.int .i64 0, .int .i64 0, .slice none 0 0, .slice none 0 0, .slice none 0 0] := alloc_fst _ _ (by simp)
    exact h2.later (below_alloc _ _)
  go_enter Try.func102, Try.ntmps102
  go_wp2_with fail
  generalize hW0 : (((w.alloc (.cells #[.int .i64 yb, .int .i64 ya, .slice a1 n1 c1, .slice a2 n2 c2, .slice a3 n3 c3] 139)).alloc (.cells #[.int .i64 0, .int .i64 0, .slice none 0 0, .slice none 0 0, .slice none 0 0] 100)).alloc (.cells #[.int .i64 yb, .int .i64 0, .slice none 0 0, .slice none 0 0, .slice none 0 0] 100)) = W0
  obtain ⟨b1, P1, P2, X1, z1⟩ := HX.out W0 hW0.symm
  clear HX hW0
  refine (HTS.out _ b1).mono ?_
  rintro e w1 ⟨d1, m1, k1, d2, m2, k2, d3, m3, k3, q1, q2, q3, rfl, ⟨t1, t2, t3⟩, ⟨l1, l2, l3⟩, hb1⟩
  have A1 := P1.later hb1
  have A2 := P2.later hb1
  have b2 := b1.trans (hb1.mono b1.size)
  have y1 := A2.at 1 _ rfl
  have y2 := A2.at 2 _ rfl
  have y3 := A2.at 3 _ rfl
  have y4 := A2.at 4 _ rfl
  have g1' := A2.fz 1
  have g2' := A2.fz 2
  have g3' := A2.fz 3
  have g4' := A2.fz 4
  have hg := grown4 w1 (w.heap.size + 1 + 1) 1 2 3 4 (.int .i64 ya) (.slice d1 m1 k1) (.slice d2 m2 k2) (.slice d3 m3 k3)
  have HA2 : Hid (Box 100 ((((w1.setCell ⟨w.heap.size + 1 + 1, 1, none⟩ (.int .i64 ya)).setCell ⟨w.heap.size + 1 + 1, 2, none⟩ (.slice d1 m1 k1)).setCell ⟨w.heap.size + 1 + 1, 3, none⟩ (.slice d2 m2 k2)).setCell ⟨w.heap.size + 1 + 1, 4, none⟩ (.slice d3 m3 k3)) (w.heap.size + 1) [.int .i64 0, .int .i64 0, .slice none 0 0, .slice none 0 0, .slice none 0 0] ∧ Box 100 ((((w1.setCell ⟨w.heap.size + 1 + 1, 1, none⟩ (.int .i64 ya)).setCell ⟨w.heap.size + 1 + 1, 2, none⟩ (.slice d1 m1 k1)).setCell ⟨w.heap.size + 1 + 1, 3, none⟩ (.slice d2 m2 k2)).setCell ⟨w.heap.size + 1 + 1, 4, none⟩ (.slice d3 m3 k3)) (w.heap.size + 1 + 1) [.int .i64 yb, .int .i64 ya, .slice d1 m1 k1, .slice d2 m2 k2, .slice d3 m3 k3] ∧ (TS ((((w1.setCell ⟨w.heap.size + 1 + 1, 1, none⟩ (.int .i64 ya)).setCell ⟨w.heap.size + 1 + 1, 2, none⟩ (.slice d1 m1 k1)).setCell ⟨w.heap.size + 1 + 1, 3, none⟩ (.slice d2 m2 k2)).setCell ⟨w.heap.size + 1 + 1, 4, none⟩ (.slice d3 m3 k3)) (.slice d1 m1 k1) q1 yo ∧ TS ((((w1.setCell ⟨w.heap.size + 1 + 1, 1, none⟩ (.int .i64 ya)).setCell ⟨w.heap.size + 1 + 1, 2, none⟩ (.slice d1 m1 k1)).setCell ⟨w.heap.size + 1 + 1, 3, none⟩ (.slice d2 m2 k2)).setCell ⟨w.heap.size + 1 + 1, 4, none⟩ (.slice d3 m3 k3)) (.slice d2 m2 k2) q2 ys ∧ TS ((((w1.setCell ⟨w.heap.size + 1 + 1, 1, none⟩ (.int .i64 ya)).setCell ⟨w.heap.size + 1 + 1, 2, none⟩ (.slice d1 m1 k1)).setCell ⟨w.heap.size + 1 + 1, 3, none⟩ (.slice d2 m2 k2)).setCell ⟨w.heap.size + 1 + 1, 4, none⟩ (.slice d3 m3 k3)) (.slice d3 m3 k3) q3 yd) ∧ Below w.heap.size w ((((w1.setCell ⟨w.heap.size + 1 + 1, 1, none⟩ (.int .i64 ya)).setCell ⟨w.heap.size + 1 + 1, 2, none⟩ (.slice d1 m1 k1)).setCell ⟨w.heap.size + 1 + 1, 3, none⟩ (.slice d2 m2 k2)).setCell ⟨w.heap.size + 1 + 1, 4, none⟩ (.slice d3 m3 k3))) :=
    ⟨A1.grown hg (by simp), (((A2.set 1 _).set 2 _).set 3 _).set 4 _, ⟨t1.keptG hg (fun _ => by simp; omega), t2.keptG hg (fun _ => by simp; omega), t3.keptG hg (fun _ => by simp; omega)⟩, b2.grown hg b2.size (fun k hk => by simp at hk; omega)⟩
  clear A1 A2 P1 P2 X1 t1 t2 t3 hb1 hg b1 b2
  go_upto_region 4 with fail
  generalize ((((w1.setCell ⟨w.heap.size + 1 + 1, 1, none⟩ (.int .i64 ya)).setCell ⟨w.heap.size + 1 + 1, 2, none⟩ (.slice d1 m1 k1)).setCell ⟨w.heap.size + 1 + 1, 3, none⟩ (.slice d2 m2 k2)).setCell ⟨w.heap.size + 1 + 1, 4, none⟩ (.slice d3 m3 k3)) = W4 at *
  clear y1 y2 y3 y4 g1' g2' g3' g4'
  go_wp2_with (first | (refine wp_loadSt rfl _ rfl (w.heap.size + 1 + 1) _ _ _ _ _ rfl HA2.out.2.1 ?_) | (refine wp_storeSt rfl _ _ rfl (w.heap.size + 1) _ _ _ _ _ _ _ _ _ _ HA2.out.1 rfl rfl rfl rfl rfl rfl rfl ?_; intro hfin) | fail)
  refine ret_st 2 (w.heap.size + 1) _ _ _ _ _ rfl rfl rfl hfin ?_
  rw [← HP.out]
  obtain ⟨_, _, ⟨t1, t2, t3⟩, hb⟩ := HA2.out
  have hgr := grown_setRowP W4 (w.heap.size + 1) #[.int .i64 yb, .int .i64 ya, .slice d1 m1 k1, .slice d2 m2 k2, .slice d3 m3 k3]
  refine ⟨d1, m1, k1, d2, m2, k2, d3, m3, k3, rfl, fun g hg => ⟨⟨q1, 0, (t1.keptG hgr (fun _ => by simp; omega)).ss, fun _ => by omega⟩, ⟨q2, 0, (t2.keptG hgr (fun _ => by simp; omega)).ss, fun _ => by omega⟩, ⟨q3, 0, (t3.keptG hgr (fun _ => by simp; omega)).ss, fun _ => by omega⟩⟩, below_row hb (by omega)⟩

theorem Try.infoStm : (Try.prog.info? 100).map (fun i => (i.zero, i.size, i.bytes)) = some (some (.agg #[.int .i64 0, .int .i64 0, .slice none 0 0, .slice none 0 0, .slice none 0 0]), 5, 88) := by kernel_rfl
theorem there_new5 {w : World} {cur : Array Value} {T n : Nat} (h : cur.size = n * 5) : ∀ j, j < n → (w.alloc (.cells cur T)).there w.heap.size (j * 5) 5 := fun j hj i hi => by
  have hc : (w.alloc (.cells cur T)).heap[w.heap.size]? = some (.cells cur T (0, 0)) := Go.heap_alloc_new w _
  have hb : j * 5 + i < cur.size := by omega
  refine ⟨?_, by simp only [World.frozen?]; rw [hc]; simp⟩
  rw [cell_of_row _ _ _ _ _ _ hc, Array.getElem?_eq_getElem hb]
  rfl
theorem made_stamps (n : Nat) (h : n ≤ 1100000) (W : World) : ∃ w', (Instr.makeSlice 62 (.int .i64 (n : Int)) (.int .i64 (n : Int))).run Try.prog W = .ok (.slice (some ⟨W.heap.size, 0, none⟩) n n) w' ∧ (∀ j, j < n → w'.there W.heap.size (j * 5) 5) ∧ Below W.heap.size W w' ∧ w'.heap.size = W.heap.size + 1 := by
  obtain ⟨i0, hi, hz0, hz1, hz2⟩ := info_parts Try.infoStm
  have h1 := run_make (P := Try.prog) W 62 100 i0 _ Try.underlying62 hi hz0 .i64 .i64 (n : Int) (n : Int) (by omega) (by omega) (by rw [hz2]; omega) (by omega)
  refine ⟨_, by simpa using h1, fun j hj => there_new5 ?_ j hj, (Below.refl _ _).alloc (Nat.le_refl _) _, by simp⟩
  rw [size_madeCells, hz1]
theorem there5 {w : World} {g o : Nat} (h : w.there g o 5) : (∃ u, w.cell? ⟨g, o, none⟩ = some u) ∧ (∃ u, w.cell? ⟨g, o + 1, none⟩ = some u) ∧ (∃ u, w.cell? ⟨g, o + 2, none⟩ = some u) ∧ (∃ u, w.cell? ⟨g, o + 3, none⟩ = some u) ∧ (∃ u, w.cell? ⟨g, o + 4, none⟩ = some u) ∧ w.frozen? ⟨g, o, none⟩ = false ∧ w.frozen? ⟨g, o + 1, none⟩ = false ∧ w.frozen? ⟨g, o + 2, none⟩ = false ∧ w.frozen? ⟨g, o + 3, none⟩ = false ∧ w.frozen? ⟨g, o + 4, none⟩ = false :=
  ⟨Option.isSome_iff_exists.1 (h 0 (by omega)).1, Option.isSome_iff_exists.1 (h 1 (by omega)).1, Option.isSome_iff_exists.1 (h 2 (by omega)).1, Option.isSome_iff_exists.1 (h 3 (by omega)).1, Option.isSome_iff_exists.1 (h 4 (by omega)).1, (h 0 (by omega)).2, (h 1 (by omega)).2, (h 2 (by omega)).2, (h 3 (by omega)).2, (h 4 (by omega)).2⟩

/-- a row of stamps at the head of block g, all that they are made of behind it -/
def StB (W : World) (v : Value) (g : Nat) (L : List Stm) : Prop := ∃ V : List StV, V.length = L.length ∧ RS 5 stcs W v g 0 V ∧ ∀ j (h : j < V.length) (h' : j < L.length), V[j].b = L[j].b ∧ V[j].a = L[j].a ∧ SXn W V[j].v1 L[j].o g ∧ SXn W V[j].v2 L[j].s g ∧ SXn W V[j].v3 L[j].d g
theorem StB.sts {W : World} {v : Value} {g : Nat} {L : List Stm} (h : StB W v g L) : StS W v g 0 L := by
  obtain ⟨V, h1, h2, h3⟩ := h
  exact ⟨V, h1, h2, fun j k k' => ⟨(h3 j k' k).1, (h3 j k' k).2.1, (h3 j k' k).2.2.1.sx, (h3 j k' k).2.2.2.1.sx, (h3 j k' k).2.2.2.2.sx⟩⟩
theorem StB.grown {W W' : World} {v : Value} {g q : Nat} {L : List Stm} (h : StB W v g L) (hg : W.grownBy W' (some q)) (hq : q < g) : StB W' v g L := by
  obtain ⟨V, h1, h2, h3⟩ := h
  exact ⟨V, h1, h2.grown hg (fun _ => by simp; omega), fun j k k' => ⟨(h3 j k k').1, (h3 j k k').2.1, (h3 j k k').2.2.1.grown hg (by omega), (h3 j k k').2.2.2.1.grown hg (by omega), (h3 j k k').2.2.2.2.grown hg (by omega)⟩⟩
theorem StB.later {W W' : World} {v : Value} {g : Nat} {L : List Stm} (h : StB W v g L) (hb : Below W.heap.size W W') : StB W' v g L := by
  obtain ⟨V, h1, h2, h3⟩ := h
  exact ⟨V, h1, h2.later hb, fun j k k' => ⟨(h3 j k k').1, (h3 j k k').2.1, (h3 j k k').2.2.1.later hb, (h3 j k k').2.2.2.1.later hb, (h3 j k k').2.2.2.2.later hb⟩⟩

/-- the first m stamps of a new row are written -/
def ToG (w : World) (L : List Stm) (g : Nat) (i : Value) (wr : World) : Prop := ∃ m : Nat, m ≤ L.length ∧ i = .int .i64 m ∧ Hid ((∃ V : List StV, V.length = m ∧ (∀ j (h : j < V.length), wr.rangeAt g (j * 5) (stcs V[j])) ∧ ∀ j (h : j < V.length) (h' : j < L.length), V[j].b = L[j].b ∧ V[j].a = L[j].a ∧ SXn wr V[j].v1 L[j].o g ∧ SXn wr V[j].v2 L[j].s g ∧ SXn wr V[j].v3 L[j].d g) ∧ (∀ j, j < L.length → wr.there g (j * 5) 5) ∧ Below w.heap.size w wr ∧ g < wr.heap.size)
theorem grown_setCells (g : Nat) : ∀ (vs : List Value) (o : Nat) (w : World), w.grownBy (w.setCells g o vs) (some g)
  | [], _, w => grown_refl w _
  | v :: r, o, w => by
    rw [World.setCells]
    exact (grown_setC w g o v).trans (grown_setCells g r (o + 1) _)

theorem ToG.set {w wr w1 : World} {L : List Stm} {g m : Nat} {V : List StV} {u1 u2 u3 : Value} (hm : m < L.length) (hB : w.heap.size ≤ g) (hgl : g < wr.heap.size) (hVl : V.length = m) (h1 : ∀ j (h : j < V.length), wr.rangeAt g (j * 5) (stcs V[j])) (h2 : ∀ j (h : j < V.length) (h' : j < L.length), V[j].b = L[j].b ∧ V[j].a = L[j].a ∧ SXn wr V[j].v1 L[j].o g ∧ SXn wr V[j].v2 L[j].s g ∧ SXn wr V[j].v3 L[j].d g) (h3 : ∀ j, j < L.length → wr.there g (j * 5) 5) (h4 : Below w.heap.size w wr) (hb : Below wr.heap.size wr w1) (x1 : SXn w1 u1 L[m].o g) (x2 : SXn w1 u2 L[m].s g) (x3 : SXn w1 u3 L[m].d g) :
    ToG w L g (.int .i64 ((m : Int) + 1)) (w1.setCells g (m * 5) (stcs ⟨L[m].b, L[m].a, u1, u2, u3⟩)) := by
  have hg := grown_setCells g (stcs ⟨L[m].b, L[m].a, u1, u2, u3⟩) (m * 5) w1
  have hth := fun j hj => there_kept (h3 j hj) (hb.block g hgl)
  refine ⟨m + 1, by omega, by congr 1, ⟨V ++ [⟨L[m].b, L[m].a, u1, u2, u3⟩], by simp [hVl], fun j hj => ?_, fun j hj hj' => ?_⟩, fun j hj => World.there_setCells (hth j hj) _ _ _, below_setCells hB _ _ _ (h4.trans (hb.mono h4.size)), ?_⟩
  · rcases Nat.lt_or_ge j m with hjm | hjm
    · have e : (V ++ [⟨L[m].b, L[m].a, u1, u2, u3⟩])[j] = V[j]'(by omega) := List.getElem_append_left (by omega)
      rw [e]
      exact World.rangeAt_setCells_apart (range_kept (h1 j (by omega)) (hb.block g hgl)) _ _ _ (.inr (.inl (by rw [stcs_len]; omega)))
    · have hje : j = m := by simp at hj; omega
      subst hje
      have e : (V ++ [⟨L[j].b, L[j].a, u1, u2, u3⟩])[j] = ⟨L[j].b, L[j].a, u1, u2, u3⟩ := by
        rw [List.getElem_append_right (by omega)]
        simp [hVl]
      rw [e]
      exact World.rangeAt_setCells_same _ _ _ _ (hth j hm)
  · rcases Nat.lt_or_ge j m with hjm | hjm
    · have e : (V ++ [⟨L[m].b, L[m].a, u1, u2, u3⟩])[j] = V[j]'(by omega) := List.getElem_append_left (by omega)
      rw [e]
      obtain ⟨k1, k2, k3, k4, k5⟩ := h2 j (by omega) hj'
      exact ⟨k1, k2, (k3.later hb).grown hg (Nat.le_refl _), (k4.later hb).grown hg (Nat.le_refl _), (k5.later hb).grown hg (Nat.le_refl _)⟩
    · have hje : j = m := by simp at hj; omega
      subst hje
      have e : (V ++ [⟨L[j].b, L[j].a, u1, u2, u3⟩])[j] = ⟨L[j].b, L[j].a, u1, u2, u3⟩ := by
        rw [List.getElem_append_right (by omega)]
        simp [hVl]
      rw [e]
      exact ⟨rfl, rfl, x1.grown hg (Nat.le_refl _), x2.grown hg (Nat.le_refl _), x3.grown hg (Nat.le_refl _)⟩
  · rw [size_setCells]
    exact Nat.lt_of_lt_of_le hgl hb.size

set_option maxRecDepth 100000 in
set_option maxHeartbeats 1000000 in
theorem toStampS_any (v : Value) (ga oa : Nat) (L : List Stm) (w : World) (hv : StS w v ga oa L) :
    Calls Try.prog 63 #[v] w fun e w' => ∃ g, e = .returned (.slice (some ⟨g, 0, none⟩) L.length L.length) ∧ w.heap.size ≤ g ∧ StB w' (.slice (some ⟨g, 0, none⟩) L.length L.length) g L ∧ Below w.heap.size w w' := by
  obtain ⟨V0, hV0, hrs, hsg⟩ := hv
  have HRS : Hid (RS 5 stcs w v ga oa V0) := hrs
  have HSG : Hid (∀ j (h : j < L.length) (h' : j < V0.length), SgV w V0[j] L[j]) := hsg
  obtain ⟨a, cap, rfl, hl, hA, hc⟩ := hrs
  rw [hV0] at hl hA HRS ⊢
  obtain ⟨n, hn⟩ : ∃ n, L.length = n := ⟨_, rfl⟩
  have HN : Hid (L.length = n ∧ V0.length = n) := ⟨hn, by omega⟩
  obtain ⟨w2, hmk, hib, hb2, hs2⟩ := made_stamps n (by omega) w
  have HST : Hid (ToG w L w.heap.size (.int .i64 0) w2) := ⟨0, by omega, rfl, ⟨[], rfl, fun j h => by simp at h, fun j h => by simp at h⟩, by rw [hn]; exact hib, hb2, by omega⟩
  have HA : Hid (0 < n → a = some ⟨ga, oa, none⟩) := by rw [← hn]; exact fun h => (hA h).1
  rw [hn] at hl HRS ⊢
  clear hib hb2 hs2 hA hc hV0 hsg
  go_enter Try.func63, Try.ntmps63
  go_wp2
  clear hmk
  go_loopw [4] (fun i wr => ToG w L w.heap.size i wr) (fun i _ => n - (intOf i).toNat)
  case atStart => exact HST.out
  case round =>
    obtain ⟨m, hm, rfl, HI⟩ := hrel
    clear HST
    rw [HN.out.1] at hm
    by_cases hlt : m < n
    · have ea := HA.out (by omega)
      subst ea
      have hmL : m < L.length := by rw [HN.out.1]; exact hlt
      have hmV : m < V0.length := by rw [HN.out.2]; exact hlt
      obtain ⟨c0, c1, c2, c3, c4⟩ := (HRS.out.later HI.out.2.2.1).stamp m hmV
      have hsg := (HSG.out m hmL hmV).later HI.out.2.2.1
      have hto := toStamp_any V0[m] L[m] wr hsg
      obtain ⟨f1, f2, ⟨f3, f4, b1, d1, e1, f5⟩, ⟨f6, f7, b2, d2, e2, f8⟩, ⟨f9, f10, b3, d3, e3, f11⟩⟩ := hsg
      clear f5 f8 f11
      rw [f1] at c0 hto
      rw [f2] at c1 hto
      rw [e1] at c2 hto
      rw [e2] at c3 hto
      rw [e3] at c4 hto
      clear f1 f2 e1 e2 e3
      have HSET : Hid (∀ w1 u1 u2 u3, Below wr.heap.size wr w1 → SXn w1 u1 L[m].o w.heap.size → SXn w1 u2 L[m].s w.heap.size → SXn w1 u3 L[m].d w.heap.size → ToG w L w.heap.size (.int .i64 ((m : Int) + 1)) (w1.setCells w.heap.size (m * 5) (stcs ⟨L[m].b, L[m].a, u1, u2, u3⟩))) := fun w1 u1 u2 u3 hb x1 x2 x3 => by
        obtain ⟨⟨V, k1, k2, k3⟩, k4, k5, k6⟩ := HI.out
        exact ToG.set hmL (Nat.le_refl _) k6 k1 k2 k3 k4 k5 hb x1 x2 x3
      have HTH : Hid (∀ w1, Below wr.heap.size wr w1 → w1.there w.heap.size (m * 5) 5) := fun w1 hb => there_kept (HI.out.2.1 m hmL) (hb.block _ HI.out.2.2.2)
      have hgl := HI.out.2.2.2
      unfold ToS1 at hto
      generalize L[m].b = yb at *
      generalize L[m].a = ya at *
      generalize L[m].o = yo at *
      generalize L[m].s = ys at *
      generalize L[m].d = yd at *
      generalize yo.length = n1 at *
      generalize ys.length = n2 at *
      generalize yd.length = n3 at *
      have i1 : (m : Int) < (n : Int) := by omega
      have i2 : (0 : Int) ≤ (m : Int) := by omega
      clear HRS HSG HA HI
      go_wp2_with fail
      refine hto.mono ?_
      rintro e w1 ⟨p1, m1, k1, p2, m2, k2, p3, m3, k3, rfl, hx, hb1⟩
      obtain ⟨x1, x2, x3⟩ := hx _ hgl
      have HJ : Hid _ := HSET.out w1 _ _ _ hb1 x1 x2 x3
      have hth := HTH.out w1 hb1
      clear hb1 hx x1 x2 x3 HSET HTH c0 c1 c2 c3 c4 hto
      obtain ⟨⟨o0, y0⟩, ⟨o1, y1⟩, ⟨o2, y2⟩, ⟨o3, y3⟩, ⟨o4, y4⟩, g0, g1, g2, g3, g4⟩ := there5 hth
      clear hth
      go_wp2
      go_roundw
      case rel => exact HJ.out
      case measure => simp [intOf]; omega
    · have hme : m = n := by omega
      subst hme
      clear HA
      go_wp2
      go_ret
      obtain ⟨⟨V, k1, k2, k3⟩, k4, k5, k6⟩ := HI.out
      refine ⟨w.heap.size, rfl, Nat.le_refl _, ⟨V, by rw [k1, HN.out.1], ⟨_, _, by rw [k1], by omega, fun _ => ⟨rfl, k6⟩, fun j hj => ?_⟩, k3⟩, k5⟩
      rw [Nat.zero_add]
      exact k2 j hj

set_option maxRecDepth 100000 in
set_option maxHeartbeats 1000000 in
theorem eqStamp_yes (x z : StV) (y : Stm) (w : World) (h : SgV w x y) (k : SgV w z y) :
    Calls Try.prog 108 #[.agg #[.int .i64 y.b, .int .i64 y.a, x.v1, x.v2, x.v3], .agg #[.int .i64 y.b, .int .i64 y.a, z.v1, z.v2, z.v3]] w fun e w' => e = .returned (.bool true) ∧ Below w.heap.size w w' := by
  have HE : Hid (∀ W, Below w.heap.size w W → Calls Try.prog 107 #[.agg #[.int .i64 y.a, x.v1, x.v2, x.v3], .agg #[.int .i64 y.a, z.v1, z.v2, z.v3]] W fun e w' => e = .returned (.bool true) ∧ Below W.heap.size W w') := fun W hW => by
    obtain ⟨_, _, ⟨g1, o1, s1⟩, ⟨g2, o2, s2⟩, ⟨g3, o3, s3⟩⟩ := h.later hW
    obtain ⟨_, _, ⟨p1, q1, t1⟩, ⟨p2, q2, t2⟩, ⟨p3, q3, t3⟩⟩ := k.later hW
    exact eqSig_yes y.a x.v1 x.v2 x.v3 z.v1 z.v2 z.v3 g1 o1 g2 o2 g3 o3 p1 q1 p2 q2 p3 q3 y.o y.s y.d W s1 s2 s3 t1 t2 t3
  obtain ⟨_, _, s1, s2, s3⟩ := h
  obtain ⟨_, _, t1, t2, t3⟩ := k
  obtain ⟨xb, xa, v1, v2, v3⟩ := x
  obtain ⟨zb, za, u1, u2, u3⟩ := z
  obtain ⟨yb, ya, yo, ys, yd⟩ := y
  simp only at s1 s2 s3 t1 t2 t3 HE ⊢
  obtain ⟨a1, c1, rfl⟩ := s1.shape
  obtain ⟨a2, c2, rfl⟩ := s2.shape
  obtain ⟨a3, c3, rfl⟩ := s3.shape
  obtain ⟨b1, d1, rfl⟩ := t1.shape
  obtain ⟨b2, d2, rfl⟩ := t2.shape
  obtain ⟨b3, d3, rfl⟩ := t3.shape
  clear s1 s2 s3 t1 t2 t3
  generalize yo.length = n1 at *
  generalize ys.length = n2 at *
  generalize yd.length = n3 at *
  have HB : Hid (Below w.heap.size w ((w.alloc (.cells #[.int .i64 yb, .int .i64 ya, .slice a1 n1 c1, .slice a2 n2 c2, .slice a3 n3 c3] 100)).alloc (.cells #[.int .i64 yb, .int .i64 ya, .slice b1 n1 d1, .slice b2 n2 d2, .slice b3 n3 d3] 100))) := (below_alloc _ _).alloc (by simp) _
  have qb : (yb != yb) = false := by simp
  go_enter Try.func108, Try.ntmps108
  go_wp2_with fail
  refine (HE.out _ HB.out).mono ?_
  rintro e w1 ⟨rfl, hb1⟩
  have HB1 : Hid (Below w.heap.size w w1) := HB.out.trans (hb1.mono HB.out.size)
  clear hb1 HB HE
  go_wp2
  go_ret
  exact ⟨rfl, HB1.out⟩

set_option maxRecDepth 100000 in
set_option maxHeartbeats 1000000 in
theorem eqStampS_yes (u v : Value) (ga oa gb ob : Nat) (L : List Stm) (w : World) (hu : StS w u ga oa L) (hv : StS w v gb ob L) :
    Calls Try.prog 68 #[u, v] w fun e w' => e = .returned (.bool true) ∧ Below w.heap.size w w' := by
  obtain ⟨U0, hU0, hru, hsu⟩ := hu
  obtain ⟨V0, hV0, hrv, hsv⟩ := hv
  have HU : Hid (RS 5 stcs w u ga oa U0) := hru
  have HV : Hid (RS 5 stcs w v gb ob V0) := hrv
  have HSU : Hid (∀ j (h : j < L.length) (h' : j < U0.length), SgV w U0[j] L[j]) := hsu
  have HSV : Hid (∀ j (h : j < L.length) (h' : j < V0.length), SgV w V0[j] L[j]) := hsv
  obtain ⟨a, cap, rfl, hl, hA, hc1⟩ := hru
  obtain ⟨b, cap2, rfl, hl2, hB, hc2⟩ := hrv
  rw [hU0] at hl hA HU ⊢
  rw [hV0] at hl2 hB HV ⊢
  obtain ⟨n, hn⟩ : ∃ n, L.length = n := ⟨_, rfl⟩
  have HN : Hid (L.length = n ∧ U0.length = n ∧ V0.length = n) := ⟨hn, by omega, by omega⟩
  have HA : Hid (0 < n → a = some ⟨ga, oa, none⟩ ∧ b = some ⟨gb, ob, none⟩) := by rw [← hn]; exact fun h => ⟨(hA h).1, (hB h).1⟩
  rw [hn] at hl HU HV ⊢
  clear hA hB hc1 hc2 hsu hsv hU0 hV0 hl2
  go_enter Try.func68, Try.ntmps68
  go_wp2
  go_loopw [5] (fun i wr => EhR n w i wr) (fun i _ => n - (intOf i).toNat)
  case atStart => exact ⟨0, by omega, rfl, Below.refl _ _⟩
  case round =>
    obtain ⟨m, hm, rfl, hbel⟩ := hrel
    by_cases hlt : m < n
    · obtain ⟨ea, eb⟩ := HA.out (by omega)
      subst ea
      subst eb
      have hmL : m < L.length := by rw [HN.out.1]; exact hlt
      have hmU : m < U0.length := by rw [HN.out.2.1]; exact hlt
      have hmV : m < V0.length := by rw [HN.out.2.2]; exact hlt
      obtain ⟨c0, c1, c2, c3, c4⟩ := (HU.out.later hbel).stamp m hmU
      obtain ⟨e0, e1, e2, e3, e4⟩ := (HV.out.later hbel).stamp m hmV
      have sU := (HSU.out m hmL hmU).later hbel
      have sV := (HSV.out m hmL hmV).later hbel
      have heq : ∀ W, Below wr.heap.size wr W → Calls Try.prog 108 #[.agg #[.int .i64 L[m].b, .int .i64 L[m].a, U0[m].v1, U0[m].v2, U0[m].v3], .agg #[.int .i64 L[m].b, .int .i64 L[m].a, V0[m].v1, V0[m].v2, V0[m].v3]] W fun e w' => e = .returned (.bool true) ∧ Below W.heap.size W w' := fun W hW => eqStamp_yes _ _ _ W (sU.later hW) (sV.later hW)
      have HEQ : Hid (∀ W, Below wr.heap.size wr W → Calls Try.prog 108 #[.agg #[.int .i64 L[m].b, .int .i64 L[m].a, U0[m].v1, U0[m].v2, U0[m].v3], .agg #[.int .i64 L[m].b, .int .i64 L[m].a, V0[m].v1, V0[m].v2, V0[m].v3]] W fun e w' => e = .returned (.bool true) ∧ Below W.heap.size W w') := heq
      rw [sU.1] at c0
      rw [sU.2.1] at c1
      rw [sV.1] at e0
      rw [sV.2.1] at e1
      obtain ⟨b1, d1, f1⟩ := sU.2.2.1.shape
      obtain ⟨b2, d2, f2⟩ := sU.2.2.2.1.shape
      obtain ⟨b3, d3, f3⟩ := sU.2.2.2.2.shape
      obtain ⟨b4, d4, f4⟩ := sV.2.2.1.shape
      obtain ⟨b5, d5, f5⟩ := sV.2.2.2.1.shape
      obtain ⟨b6, d6, f6⟩ := sV.2.2.2.2.shape
      rw [f1, f2, f3, f4, f5, f6] at HEQ
      rw [f1] at c2
      rw [f2] at c3
      rw [f3] at c4
      rw [f4] at e2
      rw [f5] at e3
      rw [f6] at e4
      clear sU sV heq f1 f2 f3 f4 f5 f6
      generalize L[m].b = yb at *
      generalize L[m].a = ya at *
      generalize L[m].o.length = n1 at *
      generalize L[m].s.length = n2 at *
      generalize L[m].d.length = n3 at *
      have i1 : (m : Int) < (n : Int) := by omega
      have i2 : (0 : Int) ≤ (m : Int) := by omega
      clear HU HV HA HSU HSV
      go_wp2
      have kq0 := cell_regrown (w := wr) c0
      have kq1 := cell_regrown (w := wr) c1
      have kq2 := cell_regrown (w := wr) c2
      have kq3 := cell_regrown (w := wr) c3
      have kq4 := cell_regrown (w := wr) c4
      have kq5 := cell_regrown (w := wr) e0
      have kq6 := cell_regrown (w := wr) e1
      have kq7 := cell_regrown (w := wr) e2
      have kq8 := cell_regrown (w := wr) e3
      have kq9 := cell_regrown (w := wr) e4
      have cq0 := fun d os => Calls.regrown_of (w := wr) (d := d) (os := os) (HEQ.out _ (below_regrown wr d os))
      refine wp_region_quiet_below (by kernel_rfl) (by kernel_rfl) ?_
      repeat (go_big_quiet_step (first | with_reducible exact cq0 _ _))
      refine wpQuiet_nil ?_
      rintro _ ⟨⟨dq, osq⟩, rfl⟩
      have hb6 := below_regrown (wr) dq osq
      generalize grow (redrawn (wr) dq) osq = w6 at *
      clear kq0 kq1 kq2 kq3 kq4 kq5 kq6 kq7 kq8 kq9 cq0
      go_wp2
      go_roundw
      case rel => exact ⟨m + 1, by omega, by go_num, hbel.trans (hb6.mono hbel.size)⟩
      case measure => simp [intOf]; omega
    · have hme : m = n := by omega
      subst hme
      clear HU HV HA HSU HSV
      go_wp2
      go_ret
      exact ⟨rfl, hbel⟩

end Go.Proofs.Ytfojmagcoipbnaa
/-
  Stamps as a text: the program's answer.
-/
namespace Go.Proofs.Ytfojmagcoipbnaa
open Go.RowKit Go.BigFrame Go.Sort
set_option linter.unusedVariables false
set_option linter.unusedSimpArgs false

theorem one_str (w : World) (b : UInt8) : (convert 101 9 (.slice (some ⟨w.heap.size, 0, none⟩) 1 1)).run Try.prog (w.alloc (.cells #[.int .u8 (b.toNat : Int)] 5)) = .ok (.string ⟨#[b]⟩) (w.alloc (.cells #[.int .u8 (b.toNat : Int)] 5)) := by
  refine run_convert_bytes_back (P := Try.prog) _ 101 9 5 ⟨w.heap.size, 0, none⟩ 1 [b] Try.underlying101 Try.underlying5 Try.underlying9 ?_
  intro j hj
  have h0 : j = 0 := by simp at hj; omega
  subst h0
  simp [Addr.add]

/-- a stamp as a text -/
def oneT (y : Stm) : ByteArray := ⟨#[UInt8.ofNat y.b.toNat]⟩ ++ sigB y.a y.o y.s y.d
theorem oneT_size (y : Stm) : (oneT y).size ≤ 322 := by
  unfold oneT
  rw [ByteArray.size_append]
  have := sigB_size y.a y.o y.s y.d
  show 1 + _ ≤ _
  omega
/-- has it one? -/
def oneB (y : Stm) : Bool := formB y.a y.o y.s y.d && decide (0 ≤ y.b ∧ y.b < 3)
def stOk (G : List Stm) : Bool := decide (G.length ≤ 3) && G.all oneB
def stJ (G : List Stm) : ByteArray := ⟨(M.varL G.length).toArray⟩ ++ joinT (G.map oneT)
def stT (G : List Stm) : ByteArray := if stOk G = true then stJ G else ⟨#[]⟩
theorem stJ_size {G : List Stm} (h : G.length ≤ 3) : (stJ G).size ≤ 2000 := by
  unfold stJ
  rw [ByteArray.size_append]
  have h1 := varT_le G.length
  match G, h with
  | [], _ => simp only [List.map_nil, joinT_none]; show _ + 0 ≤ _; omega
  | [a], _ =>
    have := oneT_size a
    simp only [List.map_cons, List.map_nil, joinT_cons, joinT_none, ByteArray.size_append] at *
    show _ + (_ + 0) ≤ _; omega
  | [a, b], _ =>
    have := oneT_size a
    have := oneT_size b
    simp only [List.map_cons, List.map_nil, joinT_cons, joinT_none, ByteArray.size_append] at *
    show _ + (_ + (_ + 0)) ≤ _; omega
  | [a, b, c], _ =>
    have := oneT_size a
    have := oneT_size b
    have := oneT_size c
    simp only [List.map_cons, List.map_nil, joinT_cons, joinT_none, ByteArray.size_append] at *
    show _ + (_ + (_ + (_ + 0))) ≤ _; omega
theorem stP_size {G : List Stm} (h : G.length ≤ 3) (m : Nat) : (joinT ((G.take m).map oneT)).size ≤ 2000 := by
  have h2 : (G.take m).length ≤ 3 := by simp; omega
  have := stJ_size h2
  unfold stJ at this
  rw [ByteArray.size_append] at this
  omega
theorem stP_take {G : List Stm} {m : Nat} (h : m < G.length) : joinT ((G.take (m + 1)).map oneT) = joinT ((G.take m).map oneT) ++ oneT G[m] := by
  rw [← List.take_append_getElem h, List.map_append, List.map_cons, List.map_nil, joinT_snoc]
theorem stOk_bad {G : List Stm} {m : Nat} (h : m < G.length) (hb : oneB G[m] = false) : stOk G = false := by
  unfold stOk
  rw [Bool.and_eq_false_iff]
  right
  rw [List.all_eq_false]
  exact ⟨_, List.getElem_mem h, by simp [hb]⟩
theorem stOk_good {G : List Stm} (h : G.length ≤ 3) (hb : ∀ j (h : j < G.length), oneB G[j] = true) : stOk G = true := by
  unfold stOk
  rw [decide_eq_true h, Bool.true_and, List.all_eq_true]
  intro y hy
  obtain ⟨j, hj, rfl⟩ := List.getElem_of_mem hy
  exact hb j hj

/-- the first m of them stand as a text, behind U -/
def WtR (w : World) (U : ByteArray) (G : List Stm) (t i : Value) (wr : World) : Prop := ∃ m : Nat, m ≤ G.length ∧ i = .int .i64 m ∧ t = .string (U ++ joinT ((G.take m).map oneT)) ∧ Hid (Below w.heap.size w wr ∧ ∀ j (h : j < G.length), j < m → oneB G[j] = true)

set_option maxRecDepth 100000 in
set_option maxHeartbeats 2000000 in
theorem stampsText_any (v : Value) (g o : Nat) (G : List Stm) (w : World) (hv : StS w v g o G) :
    Calls Try.prog 65 #[v] w fun e w' => e = .returned (.tuple #[.string (stT G), .bool (stOk G)]) ∧ Below w.heap.size w w' := by
  have HG : Hid (StS w v g o G) := hv
  obtain ⟨ag, cg, rfl, hl, hA⟩ := hv.shape
  obtain ⟨B, hB⟩ : ∃ B, stOk G = B := ⟨_, rfl⟩
  obtain ⟨T, hT⟩ : ∃ T, stT G = T := ⟨_, rfl⟩
  have HB : Hid (stOk G = B) := hB
  have HT : Hid (stT G = T) := hT
  rw [hB, hT]
  obtain ⟨ng, hng⟩ : ∃ n, G.length = n := ⟨_, rfl⟩
  have HN : Hid (G.length = ng) := hng
  have HA : Hid (0 < ng → ag = some ⟨g, o, none⟩) := by rw [← hng]; exact hA
  rw [hng] at hl HG ⊢
  clear hA hv hB hT
  by_cases h3 : ng ≤ 3
  · have HVT : Hid (∀ W, Calls Try.prog 86 #[.int .i64 (ng : Int)] W fun e w' => e = .returned (.tuple #[.string ⟨(M.varL ng).toArray⟩, .bool true]) ∧ Below W.heap.size W w') := fun W => VarText_yes ng W (by omega)
    have hU := varT_le ng
    have HTT : Hid (B = true → T = ⟨(M.varL ng).toArray⟩ ++ joinT (G.map oneT)) := fun h => by
      rw [← HT.out]
      unfold stT stJ
      rw [HB.out, if_pos h, HN.out]
    generalize (⟨(M.varL ng).toArray⟩ : ByteArray) = U at *
    have q3 : ¬ (3 : Int) < (ng : Int) := by omega
    clear hng
    go_enter Try.func65, Try.ntmps65
    go_wp2_with fail
    refine (HVT.out _).mono ?_
    rintro e w1 ⟨rfl, hb1⟩
    have HST : Hid (WtR w U G (.string U) (.int .i64 0) w1) := ⟨0, by omega, rfl, by rw [List.take_zero, List.map_nil, joinT_none]; congr 1; exact (ByteArray.append_empty (b := U)).symm, hb1, fun j _ h => by omega⟩
    clear HVT hb1
    go_wp2
    go_loopw [4, 21] (fun t i wr => WtR w U G t i wr) (fun t i _ => ng - (intOf i).toNat)
    case atStart => exact HST.out
    case round =>
      obtain ⟨m, hm, rfl, rfl, HI⟩ := hrel
      clear HST
      rw [HN.out] at hm
      by_cases hlt : m < ng
      · have ea := HA.out (by omega)
        subst ea
        have hmG : m < G.length := by rw [HN.out]; exact hlt
        obtain ⟨u1, u2, u3, ⟨c0, c1, c2, c3, c4⟩, hu1, hu2, hu3⟩ := (HG.out.later HI.out.1).at m hmG
        obtain ⟨b1, d1, rfl⟩ := hu1.shape
        obtain ⟨b2, d2, rfl⟩ := hu2.shape
        obtain ⟨b3, d3, rfl⟩ := hu3.shape
        have hgl := lt_of_cell c0
        have hbn : Below wr.heap.size wr (wr.alloc (.cells #[.int .i64 G[m].b, .int .i64 G[m].a, .slice b1 G[m].o.length d1, .slice b2 G[m].s.length d2, .slice b3 G[m].d.length d3] 100)) := below_alloc _ _
        have hbx := Box.new 100 wr [.int .i64 G[m].b, .int .i64 G[m].a, .slice b1 G[m].o.length d1, .slice b2 G[m].s.length d2, .slice b3 G[m].d.length d3]
        have hsg : Calls Try.prog 104 #[.agg #[.int .i64 G[m].a, .slice b1 G[m].o.length d1, .slice b2 G[m].s.length d2, .slice b3 G[m].d.length d3]] (wr.alloc (.cells #[.int .i64 G[m].b, .int .i64 G[m].a, .slice b1 G[m].o.length d1, .slice b2 G[m].s.length d2, .slice b3 G[m].d.length d3] 100)) fun e w' => e = .returned (.tuple #[.string (sigB G[m].a G[m].o G[m].s G[m].d), .bool (formB G[m].a G[m].o G[m].s G[m].d)]) ∧ Below (wr.alloc (.cells #[.int .i64 G[m].b, .int .i64 G[m].a, .slice b1 G[m].o.length d1, .slice b2 G[m].s.length d2, .slice b3 G[m].d.length d3] 100)).heap.size (wr.alloc (.cells #[.int .i64 G[m].b, .int .i64 G[m].a, .slice b1 G[m].o.length d1, .slice b2 G[m].s.length d2, .slice b3 G[m].d.length d3] 100)) w' := by
          obtain ⟨k1, l1, s1⟩ := hu1.later hbn
          obtain ⟨k2, l2, s2⟩ := hu2.later hbn
          obtain ⟨k3, l3, s3⟩ := hu3.later hbn
          exact SigText_all _ _ _ _ k1 l1 k2 l2 k3 l3 _ _ _ _ s1 s2 s3
        have hone : oneB G[m] = (formB G[m].a G[m].o G[m].s G[m].d && decide (0 ≤ G[m].b ∧ G[m].b < 3)) := rfl
        have HX : Hid (oneB G[m] = (formB G[m].a G[m].o G[m].s G[m].d && decide (0 ≤ G[m].b ∧ G[m].b < 3)) ∧ (oneB G[m] = false → B = false ∧ T = ⟨#[]⟩)) := ⟨rfl, fun h => by
          have := stOk_bad hmG h
          refine ⟨by rw [← HB.out]; exact this, ?_⟩
          rw [← HT.out]
          unfold stT
          rw [this, if_neg (by simp)]⟩
        have HNX : Hid (∀ W, oneB G[m] = true → Below wr.heap.size wr W → WtR w U G (.string (U ++ (joinT ((G.take m).map oneT) ++ (⟨#[UInt8.ofNat G[m].b.toNat]⟩ ++ sigB G[m].a G[m].o G[m].s G[m].d)))) (.int .i64 ((m : Int) + 1)) W) := fun W h hW => ⟨m + 1, by omega, by congr 1, by rw [stP_take hmG]; rfl, HI.out.1.trans (hW.mono HI.out.1.size), fun j hj hjm => by
          rcases Nat.lt_or_ge j m with h1 | h1
          · exact HI.out.2 j hj h1
          · have : j = m := by omega
            subst this
            exact h⟩
        have hJs := stP_size (G := G) (by rw [HN.out]; exact h3) m
        have hss := sigB_size G[m].a G[m].o G[m].s G[m].d
        have HBW : Hid (Below w.heap.size w wr) := HI.out.1
        clear hone hu1 hu2 hu3 HI HG HB HT
        generalize oneB G[m] = bo at *
        generalize formB G[m].a G[m].o G[m].s G[m].d = bf at *
        generalize sigB G[m].a G[m].o G[m].s G[m].d = X at *
        generalize G[m].o.length = m1 at *
        generalize G[m].s.length = m2 at *
        generalize G[m].d.length = m3 at *
        generalize G[m].a = ya at *
        generalize G[m].b = yb at *
        generalize joinT ((G.take m).map oneT) = J at *
        have i1 : (m : Int) < (ng : Int) := by omega
        have i2 : (0 : Int) ≤ (m : Int) := by omega
        have y0 := hbx.at 0 _ rfl
        have y1 := hbx.at 1 _ rfl
        have y2 := hbx.at 2 _ rfl
        have y3 := hbx.at 3 _ rfl
        have y4 := hbx.at 4 _ rfl
        go_wp2_with fail
        refine hsg.mono ?_
        rintro e w2 ⟨rfl, hb2⟩
        have hbx2 := hbx.later hb2
        have hbn2 := hbn.trans (hb2.mono hbn.size)
        have HBN : Hid (Below wr.heap.size wr w2) := hbn2
        have x0 := hbx2.at 0 _ rfl
        have hlt2 : wr.heap.size < w2.heap.size := hbx2.lt
        clear y0 y1 y2 y3 y4 c0 c1 c2 c3 c4 hsg hbx hbn hbn2 hb2
        cases bf
        · have hbo : bo = false := by rw [HX.out.1]; simp
          obtain ⟨rfl, rfl⟩ := HX.out.2 hbo
          have HF : Hid (Below w.heap.size w w2) := HBW.out.trans (HBN.out.mono HBW.out.size)
          clear HX HNX hbx2 x0
          go_wp2
          go_ret2
          exact ⟨rfl, HF.out⟩
        · go_wp2_with fail
          refine (houseOk_any _ _).mono ?_
          rintro e w3 ⟨rfl, rfl⟩
          by_cases hyb : 0 ≤ yb ∧ yb < 3
          · rw [decide_eq_true hyb]
            have hbo : bo = true := by rw [HX.out.1, decide_eq_true hyb]; rfl
            obtain ⟨b, hb⟩ : ∃ b, UInt8.ofNat yb.toNat = b := ⟨_, rfl⟩
            have kb : yb = (b.toNat : Int) := by rw [← hb]; exact byte_int yb _ (by omega) (by omega)
            rw [hb] at HNX
            clear hb
            subst kb
            have t1 := one_str w3 b
            have hs1 : (⟨#[b]⟩ : ByteArray).size = 1 := rfl
            have HF : Hid (WtR w U G (.string (U ++ (J ++ (⟨#[b]⟩ ++ X)))) (.int .i64 ((m : Int) + 1)) (w3.alloc (.cells #[.int .u8 (b.toNat : Int)] 5))) := HNX.out _ hbo (HBN.out.alloc HBN.out.size _)
            rw [← ByteArray.append_assoc] at HF
            clear HX HNX hbx2
            generalize (⟨#[b]⟩ : ByteArray) = S1 at *
            go_wp2
            go_roundw
            case rel => exact HF.out
            case measure => simp [intOf]; omega
          · rw [decide_eq_false hyb]
            have hbo : bo = false := by rw [HX.out.1, decide_eq_false hyb]; rfl
            obtain ⟨rfl, rfl⟩ := HX.out.2 hbo
            have HF : Hid (Below w.heap.size w w3) := HBW.out.trans (HBN.out.mono HBW.out.size)
            clear HX HNX hbx2 x0
            go_wp2
            go_ret2
            exact ⟨rfl, HF.out⟩
      · have hme : m = ng := by omega
        have hq : G.take m = G := List.take_of_length_le (by rw [HN.out]; omega)
        rw [hq]
        have i1 : ¬ (m : Int) < (ng : Int) := by omega
        have hBt : B = true := by
          rw [← HB.out]
          exact stOk_good (by rw [HN.out]; exact h3) fun j hj => HI.out.2 j hj (by rw [HN.out] at hj; omega)
        have hTe := HTT.out hBt
        subst hBt
        have HF : Hid (Below w.heap.size w wr) := HI.out.1
        clear HI HG
        go_wp2
        go_ret2
        exact ⟨rfl, HF.out⟩
  · have hBf : B = false := by
      rw [← HB.out]
      unfold stOk
      rw [HN.out, decide_eq_false h3, Bool.false_and]
    have hTe : T = ⟨#[]⟩ := by
      rw [← HT.out]
      unfold stT
      rw [HB.out, hBf, if_neg (by simp)]
    subst hBf
    subst hTe
    have q3 : (3 : Int) < (ng : Int) := by omega
    clear HG hng
    go_enter Try.func65, Try.ntmps65
    go_wp2
    go_ret2
    exact ⟨rfl, Below.refl _ _⟩

end Go.Proofs.Ytfojmagcoipbnaa
